/-
  OplogDrops: what is dropped is what is not above a stamp; the rest stays in its row.
-/
import Derived.Test.YtlecpeofjabndaaLw
import Derived.Test.YtlecpeofjabndaaLy
import Derived.Test.YtlecpeofjabndaaBits
namespace Go.Proofs.Ytlecpeofjabndaa
open Go.RowKit
set_option linter.unusedVariables false
set_option linter.unusedSimpArgs false

/-- What holds of logs behind n Adds that have seen little. -/
def Okc (n : Nat) (C : List Co) : Prop := ∀ i (hi : i < C.length), (C[i]).k = (i : Int) ∧ 0 ≤ (C[i]).a ∧ (C[i]).a ≤ n + 8 ∧ srt (C[i]).R ∧ (∀ r ∈ (C[i]).R, r.k = (i : Int) ∧ r.a ≤ (C[i]).a) ∧ (C[i]).R.length ≤ n

theorem Okc.fresh (m : Nat) : Okc 0 (freshC m m) := fun i hi => by
  rw [freshC_get]
  have : i < m := by simpa [freshC] using hi
  exact ⟨by rw [if_pos this], by simp, by simp, List.Pairwise.nil, by simp, by simp⟩

theorem next_is {a k sa sk : Int} (h1 : mayS a k = true) (h2 : mayS sa sk = true) : nextS a k sa sk = max a sa + 1 := by simp [nextS, h1, h2]

theorem Okc.add {n : Nat} {C : List Co} (h : Okc n C) (hn : n ≤ 1000) {i : Nat} (hi : i < C.length) (h8 : C.length ≤ 8) {s : Int} (hs0 : 0 ≤ s) (hs : s ≤ 7) (v : Value) (kind fd off num : Int) (p1 p2 dat : ByteArray) : Okc (n + 1) (C.set i ⟨v, (C[i]).R ++ [addR C[i] kind i fd off num p1 p2 dat s 0], nextS (C[i]).a (C[i]).k s 0, (C[i]).k⟩) := by
  intro j hj
  have hj' : j < C.length := by simpa using hj
  obtain ⟨g1, g2, g3, g4, g5, g6⟩ := h j hj'
  by_cases e : i = j
  · subst e
    have hnx : nextS (C[i]).a (C[i]).k s 0 = max (C[i]).a s + 1 := next_is (by rw [g1]; simp [mayS]; omega) (by simp [mayS]; omega)
    rw [List.getElem_set_self]
    refine ⟨g1, ?_, ?_, ?_, ?_, ?_⟩
    · show 0 ≤ nextS (C[i]).a (C[i]).k s 0; rw [hnx]; omega
    · show nextS (C[i]).a (C[i]).k s 0 ≤ ((n + 1 : Nat) : Int) + 8; rw [hnx]; omega
    · refine List.pairwise_append.2 ⟨g4, List.pairwise_singleton _ _, fun x hx y hy => ?_⟩
      have hy' : y = addR C[i] kind i fd off num p1 p2 dat s 0 := by simpa using hy
      subst hy'
      rw [leR_iff]
      have := (g5 x hx).2
      show x.a < nextS (C[i]).a (C[i]).k s 0 ∨ _
      rw [hnx]; omega
    · intro r hr
      rcases List.mem_append.1 hr with h1 | h1
      · have := g5 r h1
        exact ⟨this.1, by show r.a ≤ nextS (C[i]).a (C[i]).k s 0; rw [hnx]; omega⟩
      · have hy' : r = addR C[i] kind i fd off num p1 p2 dat s 0 := by simpa using h1
        subst hy'
        exact ⟨g1, Int.le_refl _⟩
    · rw [List.length_append]; simp; omega
  · rw [List.getElem_set_ne e]
    exact ⟨g1, g2, by omega, g4, g5, by omega⟩

theorem Okc.srt {n : Nat} {C : List Co} (h : Okc n C) : ∀ l ∈ C.map Co.R, srt l := fun l hl => by
  obtain ⟨i, hi, rfl⟩ := List.getElem_of_mem hl
  have := (h i (by simpa using hi)).2.2.2.1
  simpa using this

theorem filter_twice (L : List (List Rec)) (ua uk : Int) : (L.map (List.filter (keepB ua uk))).map (List.filter (keepB ua uk)) = L.map (List.filter (keepB ua uk)) := by
  rw [List.map_map]
  apply List.map_congr_left
  intro l hl
  simp [List.filter_filter]

set_option maxRecDepth 100000 in
set_option maxHeartbeats 8000000 in
theorem drops (a0 : Option Addr) (len0 cap0 : Nat) (z0 : List Int) (x y uc uk : Int) (w : World) (hx : bits .and .i64 x 63 = uc) (hy : bits .and .i64 y 3 = uk) (hl : len0 ≤ 9223372036854775807) (hc : ∀ i, i < len0 → ∃ bb off, a0 = some ⟨bb, off, none⟩ ∧ w.cell? ⟨bb, off + i, none⟩ = some (.int .i64 (z0.getD i 0))) :
    Calls Try.prog 6 #[.slice a0 len0 cap0, .int .i64 x, .int .i64 y] w fun e w' => e = .returned (.bool true) ∧ Kept [] w w' := by
  have HC : Hid (_ ∧ _ ∧ _) := ⟨hc, hx, hy⟩
  clear hc hx hy
  go_enter Try.func6, Try.ntmps6
  go_wp2_with fail
  refine (awake_any w).mono ?_
  rintro e w1 ⟨rfl, hK1⟩
  have HK : Hid (Kept [] w w1) := hK1
  clear hK1
  go_wp2_with fail
  refine (p_new 3 (by omega) (by omega) w1).mono ?_
  rintro e w2 ⟨p, g, rfl, hL, k2⟩
  have HL2 : Hid (Lo w1.heap.size w2 p g (freshC 3 3) ∧ (freshC 3 3).length = 3 ∧ Okc 0 (freshC 3 3) ∧ Kept [] w1 w2) := ⟨hL, freshC_length 3 3, Okc.fresh 3, k2⟩
  clear hL k2
  go_wp2_with fail
  go_loopw [9] (fun i wr => ∃ (n : Nat) (C : List Co), i = .int .i64 (n : Int) ∧ n ≤ 60 ∧ n ≤ len0 ∧ Hid (Lo w1.heap.size wr p g C ∧ C.length = 3 ∧ Okc n C ∧ Kept [] w1 wr)) (fun i _ => (60 - intOf i).toNat)
  case atStart => exact ⟨0, _, rfl, by omega, by omega, HL2.out⟩
  case round =>
    clear HL2
    obtain ⟨n, C, rfl, hn60, hnl, HJ⟩ := hrel
    by_cases hlt : n < len0 ∧ n < 60
    · obtain ⟨hlt, hlt2⟩ := hlt
      have i0 : (0 : Int) ≤ (n : Int) := by omega
      have i1 : (n : Int) < (len0 : Int) := by omega
      have i2 : (n : Int) < 60 := by omega
      obtain ⟨bb, off, ha, hcell⟩ := HC.out.1 n hlt
      subst ha
      obtain ⟨z, hz⟩ : ∃ z, z0.getD n 0 = z := ⟨_, rfl⟩
      rw [hz] at hcell
      have hbw : bb < w.heap.size := block_lt_of_cell hcell
      have HNb : Hid (bb ∉ bl p g C) := fun hm => by have := (HJ.out.1.lt bb hm).1; have := HK.out.size; omega
      have HS : Hid (wr.cell? ⟨bb, off + n, none⟩ = some (.int .i64 z)) := HJ.out.2.2.2.cell (HK.out.cell hcell (by simp)) (by simp)
      obtain ⟨u1, u2⟩ := urem z 3 (by omega) (by omega)
      obtain ⟨cc, hcc⟩ : ∃ cc, ((IntKind.u64.wrap z) % 3).toNat = cc := ⟨_, rfl⟩
      rw [hcc] at u1 u2
      obtain ⟨s, hs⟩ : ∃ s, bits .and .i64 (wrap64 (z.tdiv 4)) 7 = s := ⟨_, rfl⟩
      have hs7 : 0 ≤ s ∧ s ≤ 7 := by rw [← hs, i64_and7]; omega
      have hcc3 : cc < C.length := by rw [HJ.out.2.1]; simpa using u2
      have HQ : Hid (wrap64 ((IntKind.u64.wrap z).tmod 3) = (cc : Int) ∧ bits .and .i64 (wrap64 (z.tdiv 4)) 7 = s ∧ cc < C.length ∧ mayS s 0 = true ∧ (C[cc]).R.length < 256) := ⟨u1, hs, hcc3, by simp [mayS]; omega, by have := (HJ.out.2.2.1 cc hcc3).2.2.2.2.2; omega⟩
      have HS7 : Hid (0 ≤ s ∧ s ≤ 7) := hs7
      clear hz hcell hbw u1 u2 hcc hs hs7
      go_upto_region 7 with fail
      refine wp_region_held_drew (S := fun w' => w'.cell? ⟨bb, off + n, none⟩ = some (.int .i64 z)) (by kernel_rfl) ?_ (fun hHeld => ?_)
      · exact HS.out
      obtain ⟨u0, hu0⟩ : ∃ u0, wr.drew = u0 := ⟨_, rfl⟩
      have HKu : Hid (Kept [] wr u0) := by rw [← hu0]; exact (Kept.refl [] wr).drew
      have HJ0 : Hid (Lo w1.heap.size u0 p g C ∧ C.length = 3 ∧ Okc n C ∧ Kept [] w1 u0) := ⟨HJ.out.1.kept0 HKu.out, HJ.out.2.1, HJ.out.2.2.1, HJ.out.2.2.2.trans HKu.out (by simp)⟩
      rw [hu0] at hHeld ⊢
      clear hu0
      refine wpAnyH_take (i := 0) (v := ?vd0) rfl (by kernel_rfl) (by kernel_rfl) (by kernel_rfl) (fun _ _ _ h => h) (Or.inl ⟨by rfl, ?hyd0⟩) (by assumption) ?_
      case hyd0 =>
        intro w hSw
        (try dsimp only at hSw)
        go_simp
        try with_reducible rfl
      try simp only [Act.put, List.setIfInBounds_toArray, List.set_cons_zero, List.set_cons_succ, List.getElem_toArray, List.getElem_cons_zero, List.getElem_cons_succ]
      refine wpAnyH_take (i := 1) (v := ?vd1) rfl (by kernel_rfl) (by kernel_rfl) (by kernel_rfl) (fun _ _ _ h => h) (Or.inl ⟨by rfl, ?hyd1⟩) (by assumption) ?_
      case hyd1 =>
        intro w hSw
        (try dsimp only at hSw)
        go_simp
        try with_reducible rfl
      try simp only [Act.put, List.setIfInBounds_toArray, List.set_cons_zero, List.set_cons_succ, List.getElem_toArray, List.getElem_cons_zero, List.getElem_cons_succ]
      refine wpAnyH_take (i := 2) (v := ?vd2) rfl (by kernel_rfl) (by kernel_rfl) (by kernel_rfl) (fun _ _ _ h => h) (Or.inl ⟨by rfl, ?hyd2⟩) (by assumption) ?_
      case hyd2 =>
        intro w hSw
        (try dsimp only at hSw)
        go_simp
        try with_reducible rfl
      try simp only [Act.put, List.setIfInBounds_toArray, List.set_cons_zero, List.set_cons_succ, List.getElem_toArray, List.getElem_cons_zero, List.getElem_cons_succ]
      refine wpAnyH_take (i := 3) (v := ?vd3) rfl (by kernel_rfl) (by kernel_rfl) (by kernel_rfl) (fun _ _ _ h => h) (Or.inl ⟨by rfl, ?hyd3⟩) (by assumption) ?_
      case hyd3 =>
        intro w hSw
        (try dsimp only at hSw)
        go_simp
        try with_reducible rfl
      try simp only [Act.put, List.setIfInBounds_toArray, List.set_cons_zero, List.set_cons_succ, List.getElem_toArray, List.getElem_cons_zero, List.getElem_cons_succ]
      refine wpAnyH_take (i := 4) (v := ?vd4) rfl (by kernel_rfl) (by kernel_rfl) (by kernel_rfl) (fun _ _ _ h => h) (Or.inl ⟨by rfl, ?hyd4⟩) (by assumption) ?_
      case hyd4 =>
        intro w hSw
        (try dsimp only at hSw)
        go_simp
        try with_reducible rfl
      try simp only [Act.put, List.setIfInBounds_toArray, List.set_cons_zero, List.set_cons_succ, List.getElem_toArray, List.getElem_cons_zero, List.getElem_cons_succ]
      refine wpAnyH_take (i := 5) (v := ?vd5) rfl (by kernel_rfl) (by kernel_rfl) (by kernel_rfl) (fun _ _ _ h => h) (Or.inl ⟨by rfl, ?hyd5⟩) (by assumption) ?_
      case hyd5 =>
        intro w hSw
        (try dsimp only at hSw)
        go_simp
        try with_reducible rfl
      try simp only [Act.put, List.setIfInBounds_toArray, List.set_cons_zero, List.set_cons_succ, List.getElem_toArray, List.getElem_cons_zero, List.getElem_cons_succ]
      refine wpAnyH_take (i := 6) (v := ?vd6) rfl (by kernel_rfl) (by kernel_rfl) (by kernel_rfl) (fun _ _ _ h => h) (Or.inl ⟨by rfl, ?hyd6⟩) (by assumption) ?_
      case hyd6 =>
        intro w hSw
        (try dsimp only at hSw)
        go_simp
        try with_reducible rfl
      try simp only [Act.put, List.setIfInBounds_toArray, List.set_cons_zero, List.set_cons_succ, List.getElem_toArray, List.getElem_cons_zero, List.getElem_cons_succ]
      refine wpAnyH_take (i := 7) (v := ?vd7) rfl (by kernel_rfl) (by kernel_rfl) (by kernel_rfl) (fun _ _ _ h => h) (Or.inl ⟨by rfl, ?hyd7⟩) (by assumption) ?_
      case hyd7 =>
        intro w hSw
        (try dsimp only at hSw)
        go_simp
        try with_reducible rfl
      try simp only [Act.put, List.setIfInBounds_toArray, List.set_cons_zero, List.set_cons_succ, List.getElem_toArray, List.getElem_cons_zero, List.getElem_cons_succ]
      refine wpAnyH_take (i := 8) (v := ?vd8) rfl (by kernel_rfl) (by kernel_rfl) (by kernel_rfl) (fun _ _ _ h => h) (Or.inl ⟨by rfl, ?hyd8⟩) (by assumption) ?_
      case hyd8 =>
        intro w hSw
        (try dsimp only at hSw)
        go_simp
        try with_reducible rfl
      try simp only [Act.put, List.setIfInBounds_toArray, List.set_cons_zero, List.set_cons_succ, List.getElem_toArray, List.getElem_cons_zero, List.getElem_cons_succ]
      refine wpAnyH_take (i := 9) (v := ?vd9) rfl (by kernel_rfl) (by kernel_rfl) (by kernel_rfl) (fun _ _ _ h => h) (Or.inl ⟨by rfl, ?hyd9⟩) (by assumption) ?_
      case hyd9 =>
        intro w hSw
        (try dsimp only at hSw)
        go_simp
        try with_reducible rfl
      try simp only [Act.put, List.setIfInBounds_toArray, List.set_cons_zero, List.set_cons_succ, List.getElem_toArray, List.getElem_cons_zero, List.getElem_cons_succ]
      refine wpAnyH_take (i := 10) (v := ?vd10) rfl (by kernel_rfl) (by kernel_rfl) (by kernel_rfl) (fun _ _ _ h => h) (Or.inl ⟨by rfl, ?hyd10⟩) (by assumption) ?_
      case hyd10 =>
        intro w hSw
        (try dsimp only at hSw)
        go_simp
        try with_reducible rfl
      try simp only [Act.put, List.setIfInBounds_toArray, List.set_cons_zero, List.set_cons_succ, List.getElem_toArray, List.getElem_cons_zero, List.getElem_cons_succ]
      refine wpAnyH_take (i := 11) (v := ?vd11) rfl (by kernel_rfl) (by kernel_rfl) (by kernel_rfl) (fun _ _ _ h => h) (Or.inl ⟨by rfl, ?hyd11⟩) (by assumption) ?_
      case hyd11 =>
        intro w hSw
        (try dsimp only at hSw)
        go_simp
        try with_reducible rfl
      try simp only [Act.put, List.setIfInBounds_toArray, List.set_cons_zero, List.set_cons_succ, List.getElem_toArray, List.getElem_cons_zero, List.getElem_cons_succ]
      refine wpAnyH_take (i := 12) (v := ?vd12) rfl (by kernel_rfl) (by kernel_rfl) (by kernel_rfl) (fun _ _ _ h => h) (Or.inl ⟨by rfl, ?hyd12⟩) (by assumption) ?_
      case hyd12 =>
        intro w hSw
        (try dsimp only at hSw)
        go_simp
        try with_reducible rfl
      try simp only [Act.put, List.setIfInBounds_toArray, List.set_cons_zero, List.set_cons_succ, List.getElem_toArray, List.getElem_cons_zero, List.getElem_cons_succ]
      refine wpAnyH_take (i := 13) (v := ?vd13) rfl (by kernel_rfl) (by kernel_rfl) (by kernel_rfl) (fun _ _ _ h => h) (Or.inl ⟨by rfl, ?hyd13⟩) (by assumption) ?_
      case hyd13 =>
        intro w hSw
        (try dsimp only at hSw)
        go_simp
        try with_reducible rfl
      try simp only [Act.put, List.setIfInBounds_toArray, List.set_cons_zero, List.set_cons_succ, List.getElem_toArray, List.getElem_cons_zero, List.getElem_cons_succ]
      refine wpAnyH_take (i := 14) (v := ?vd14) rfl (by kernel_rfl) (by kernel_rfl) (by kernel_rfl) (fun _ _ _ h => h) (Or.inl ⟨by rfl, ?hyd14⟩) (by assumption) ?_
      case hyd14 =>
        intro w hSw
        (try dsimp only at hSw)
        go_simp
        try with_reducible rfl
      try simp only [Act.put, List.setIfInBounds_toArray, List.set_cons_zero, List.set_cons_succ, List.getElem_toArray, List.getElem_cons_zero, List.getElem_cons_succ]
      refine wpAnyH_take (i := 15) (v := ?vd15) rfl (by kernel_rfl) (by kernel_rfl) (by kernel_rfl) (fun _ _ _ h => h) (Or.inl ⟨by rfl, ?hyd15⟩) (by assumption) ?_
      case hyd15 =>
        intro w hSw
        (try dsimp only at hSw)
        go_simp
        try with_reducible rfl
      try simp only [Act.put, List.setIfInBounds_toArray, List.set_cons_zero, List.set_cons_succ, List.getElem_toArray, List.getElem_cons_zero, List.getElem_cons_succ]
      refine wpAnyH_take (i := 16) (v := ?vd16) rfl (by kernel_rfl) (by kernel_rfl) (by kernel_rfl) (fun _ _ _ h => h) (Or.inl ⟨by rfl, ?hyd16⟩) (by assumption) ?_
      case hyd16 =>
        intro w hSw
        (try dsimp only at hSw)
        go_simp
        try with_reducible rfl
      try simp only [Act.put, List.setIfInBounds_toArray, List.set_cons_zero, List.set_cons_succ, List.getElem_toArray, List.getElem_cons_zero, List.getElem_cons_succ]
      refine wpAnyH_ready (rs := [17]) (by kernel_rfl) (by simp) ?_
      refine AllReadyH.cons rfl (fun K hK => ?_) AllReadyH.nil
      go_simp
      simp only [Go.IntWalk.i64_left]
      rw [HQ.out.1, HQ.out.2.1]
      refine (p_add HJ0.out.1 0 (i := cc) 0 0 (n : Int) ⟨#[]⟩ ⟨#[]⟩ ⟨#[]⟩ s 0 HJ0.out.2.2.2.size rfl HQ.out.2.2.1 HQ.out.2.2.2.1 HQ.out.2.2.2.2 ⟨by decide, by decide, by decide⟩).mono ?_
      rintro e w4 ⟨rfl, v4, hL, k4, hb⟩
      have HL4 : Hid (_ ∧ Kept (bl p g C) u0 w4) := ⟨hL, k4⟩
      clear hL k4 hb
      go_wp2_with fail
      refine hK.out _ _ ?_ (fun hHeld => ?_)
      · exact HL4.out.2.cell hHeld HNb.out
      clear hK K
      try simp only [Act.put, List.setIfInBounds_toArray, List.set_cons_zero, List.set_cons_succ, List.getElem_toArray, List.getElem_cons_zero, List.getElem_cons_succ]
      refine wpAnyH_done (by kernel_rfl) ?_ _
      have HN : Hid (Okc (n + 1) _) := HJ0.out.2.2.1.add (by omega) HQ.out.2.2.1 (by have := HJ0.out.2.1; omega) HS7.out.1 HS7.out.2 v4 0 0 0 (n : Int) ⟨#[]⟩ ⟨#[]⟩ ⟨#[]⟩
      have HK4 : Hid (Kept [] w1 w4) := HJ0.out.2.2.2.trans HL4.out.2 (fun x hx => Or.inr (HJ0.out.1.lt x hx).1)
      go_wp2_with fail
      go_roundw
      case rel => exact ⟨n + 1, _, by go_num, by omega, by omega, HL4.out.1, by simpa using HJ0.out.2.1, HN.out, HK4.out⟩
      case measure => simp [intOf]; omega
    · have HJ1 : Hid (Lo w1.heap.size wr p g C ∧ C.length = 3 ∧ Okc n C ∧ Kept [] w1 wr) := HJ.out
      have P := p_merge HJ1.out.1
      obtain ⟨M, hM⟩ : ∃ M, mergeR (C.map Co.R) = M := ⟨_, rfl⟩
      rw [hM] at P
      have HM : Hid (mergeR (C.map Co.R) = M) := hM
      have HMl : Hid (M.length ≤ 2048) := by
        show _ ≤ _
        rw [← hM, mergeR_length]
        have := totR_le (L := C.map Co.R) (fun l hl => by
          obtain ⟨i, hi, rfl⟩ := List.getElem_of_mem hl
          have := HJ1.out.1.len i (by simpa using hi)
          simpa using this)
        simp only [List.length_map, HJ1.out.2.1] at this
        omega
      clear HJ hM
      by_cases hex : n < len0
      · have i1 : (n : Int) < (len0 : Int) := by omega
        have i2 : ¬ (n : Int) < 60 := by omega
        go_wp2_with fail
        refine P.mono ?_
        rintro e w5 ⟨vA, rfl, rA, k5⟩
        obtain ⟨aA, cA, hvA, hcA, hcmA, -⟩ := rA.slice
        subst hvA
        clear P
        obtain ⟨WQ, Q, HWQ, HKQ, HBQ⟩ := box1 w5 #[.int .i64 uc, .int .i64 uk] 35
        have HAll : Hid (Rr WQ wr.heap.size (.slice aA M.length cA) M ∧ Kept [] wr WQ) := ⟨rA.kept HKQ.out.1 (by simp), k5.trans HKQ.out.1 (by simp)⟩
        have HQn : Hid (Q ∉ bl p g C ∧ Q < WQ.heap.size ∧ ∀ x, (Value.slice aA M.length cA).ownBlock = some x → x ∉ bl p g C) := ⟨fun hm => by have h1 := (HJ1.out.1.lt Q hm).2; have h2 := HWQ.out.2; have h3 := k5.size; omega, lt_of_heap HBQ.out, fun x hx hm => by have h1 := (HJ1.out.1.lt x hm).2; have h2 := (rA.block x hx).1; omega⟩
        have HLQ : Hid (Lo w1.heap.size WQ p g C ∧ Kept [] w1 WQ) := ⟨HJ1.out.1.kept0 HAll.out.2, HJ1.out.2.2.2.trans HAll.out.2 (by simp)⟩
        have hMl := HMl.out
        have hcA2 : cA ≤ 9223372036854775807 := by unfold maxLen at hcmA; omega
        clear rA k5
        go_upto_region 10 with fail
        rw [HC.out.2.1, HC.out.2.2, HWQ.out.1, HWQ.out.2]
        clear HWQ HKQ hcmA
        go_wp2_with fail
        go_loopw [12, 13] (fun u i wr => ∃ (n : Nat) (ua : Option Addr) (ucp : Nat), u = .slice ua ((M.take n).filter (keepB uc uk)).length ucp ∧ i = .int .i64 (n : Int) ∧ n ≤ M.length ∧ Hid (M.length ≤ 2048 ∧ Rr wr WQ.heap.size (.slice ua ((M.take n).filter (keepB uc uk)).length ucp) ((M.take n).filter (keepB uc uk)) ∧ Kept [] WQ wr)) (fun _ i _ => (M.length - intOf i).toNat)
        case atStart => exact ⟨0, none, 0, rfl, rfl, by omega, HMl.out, Rr.nil _ _, Kept.refl _ _⟩
        case round =>
          obtain ⟨n, ua, ucp, rfl, rfl, hnle, HJ⟩ := hrel
          by_cases hlt : n < M.length
          · have j0 : (0 : Int) ≤ (n : Int) := by omega
            have j1 : (n : Int) < (M.length : Int) := by omega
            have hnM : n < M.length := hlt
            obtain ⟨r, hr⟩ : ∃ r, M[n] = r := ⟨_, rfl⟩
            have HRe : Hid (M[n] = r) := hr
            obtain ⟨gm, hga, t0, t1, t2, t3, t4, t5, t6, t7, t8, t9⟩ := (HAll.out.1.kept HJ.out.2.2 (by simp)).ten rfl hlt hr
            subst hga
            obtain ⟨a, k, kind, core, fd, ofs, num, p1, p2, dat⟩ := r
            dsimp only at t0 t1 t2 t3 t4 t5 t6 t7 t8 t9
            obtain ⟨W2, X2, HW2, HK2', HB2⟩ := box1 wr #[.int .i64 a, .int .i64 k] 35
            have HK2 : Hid (Kept [] wr W2) := HK2'.out.1
            clear hr
            go_upto_region 15 with fail
            rw [HW2.out.1, HW2.out.2]
            have x0 : W2.cell? ⟨X2, 0, none⟩ = some (.int .i64 a) := cellB HB2.out
            have x1 : W2.cell? ⟨X2, 1, none⟩ = some (.int .i64 k) := cellB HB2.out
            have z0 : W2.cell? ⟨Q, 0, none⟩ = some (.int .i64 uc) := HK2.out.cell (HJ.out.2.2.cell (cellB HBQ.out) (by simp)) (by simp)
            have z1 : W2.cell? ⟨Q, 1, none⟩ = some (.int .i64 uk) := HK2.out.cell (HJ.out.2.2.cell (cellB HBQ.out) (by simp)) (by simp)
            have q0 := HK2.out.cell t0 (by simp)
            have q1 := HK2.out.cell t1 (by simp)
            have q2 := HK2.out.cell t2 (by simp)
            have q3 := HK2.out.cell t3 (by simp)
            have q4 := HK2.out.cell t4 (by simp)
            have q5 := HK2.out.cell t5 (by simp)
            have q6 := HK2.out.cell t6 (by simp)
            have q7 := HK2.out.cell t7 (by simp)
            have q8 := HK2.out.cell t8 (by simp)
            have q9 := HK2.out.cell t9 (by simp)
            clear HW2 HK2' t0 t1 t2 t3 t4 t5 t6 t7 t8 t9
            by_cases h1 : uc < a
            · skip
              have l1 : uc < a := by omega
              have d1 : decide (uc < a) = true := decide_eq_true l1
              have HWn : Hid ((M.take (n + 1)).filter (keepB uc uk) = (M.take n).filter (keepB uc uk) ++ [⟨a, k, kind, core, fd, ofs, num, p1, p2, dat⟩]) := by
                show _ = _
                rw [List.take_succ_eq_append_getElem hnM, List.filter_append, HRe.out]
                have : keepB uc uk ⟨a, k, kind, core, fd, ofs, num, p1, p2, dat⟩ = true := by unfold keepB; rw [less_iff]; dsimp only; omega
                simp [this]
              obtain ⟨W3, Y, HY, HKY, HBY⟩ := box1 W2 #[.int .i64 a, .int .i64 k, .int .i64 kind, .int .i64 core, .int .i64 fd, .int .i64 ofs, .int .i64 num, .string p1, .string p2, .string dat] 57
              have hbY : ∀ j u, (Rec.cs ⟨a, k, kind, core, fd, ofs, num, p1, p2, dat⟩)[j]? = some u → W3.cell? ⟨Y, j, none⟩ = some u := fun j u hu => by rw [cellB HBY.out, ← hu]; simp [Rec.cs]
              have HK3 : Hid (Kept [] wr W3) := HK2.out.trans HKY.out.1 (by simp)
              have hFl : ((M.take n).filter (keepB uc uk)).length + 1 ≤ 1000000 := by
                have h8 := List.length_filter_le (keepB uc uk) (M.take n)
                have h9 : (M.take n).length ≤ n := by rw [List.length_take]; omega
                omega
              obtain ⟨gn, cn, w5, hr5, rr5, gr5, hg5, -⟩ := append_rec (R := (M.take n).filter (keepB uc uk)) (v := .slice ua ((M.take n).filter (keepB uc uk)).length ucp) (HJ.out.2.1.kept HK3.out (by simp)) (Nat.le_trans HJ.out.2.2.size HK3.out.size) Y ⟨a, k, kind, core, fd, ofs, num, p1, p2, dat⟩ hbY hFl 44
              have HAp : Hid ((Builtin.append_ #[44, 44] 44 #[.slice ua ((M.take n).filter (keepB uc uk)).length ucp, .slice (some ⟨Y, 0, none⟩) 1 1]).run Try.prog W3 = .ok (.slice (some ⟨gn, 0, none⟩) (((M.take n).filter (keepB uc uk)).length + 1) cn) w5) := hr5
              rw [← HY.out.1, ← HY.out.2] at HAp
              have HK5 : Hid (Kept [] WQ w5) := (HJ.out.2.2.trans HK3.out (by simp)).grown gr5 (fun x hx => Or.inr (HJ.out.2.1.block x hx).1)
              have HR5 : Hid (Rr w5 WQ.heap.size (.slice (some ⟨gn, 0, none⟩) (((M.take n).filter (keepB uc uk)).length + 1) cn) ((M.take (n + 1)).filter (keepB uc uk))) := by rw [HWn.out]; exact rr5
              have HLn : Hid (((M.take n).filter (keepB uc uk)).length + 1 = ((M.take (n + 1)).filter (keepB uc uk)).length) := by show _ = _; rw [HWn.out]; simp
              clear hbY hr5 rr5 gr5 hg5 hFl
              go_wp2_with (at_builtin; refine wpList_append_run _ rfl _ _ 44 44 rfl _ _ rfl rfl _ _ HAp.out ?_)
              go_roundw
              case rel => exact ⟨n + 1, some ⟨gn, 0, none⟩, cn, by rw [HLn.out], by go_num, by omega, HMl.out, by rw [← HLn.out]; exact HR5.out, HK5.out⟩
              case measure => simp [intOf]; omega
            · by_cases h2 : uc = a
              · subst h2
                by_cases h3 : uk < k
                · skip
                  have l1 : ¬ uc < uc := by omega
                  have d1 : decide (uc < uc) = false := decide_eq_false l1
                  have l3 : uk < k := h3
                  have d3 : decide (uk < k) = true := decide_eq_true l3
                  have HWn : Hid ((M.take (n + 1)).filter (keepB uc uk) = (M.take n).filter (keepB uc uk) ++ [⟨uc, k, kind, core, fd, ofs, num, p1, p2, dat⟩]) := by
                    show _ = _
                    rw [List.take_succ_eq_append_getElem hnM, List.filter_append, HRe.out]
                    have : keepB uc uk ⟨uc, k, kind, core, fd, ofs, num, p1, p2, dat⟩ = true := by unfold keepB; rw [less_iff]; dsimp only; omega
                    simp [this]
                  obtain ⟨W3, Y, HY, HKY, HBY⟩ := box1 W2 #[.int .i64 uc, .int .i64 k, .int .i64 kind, .int .i64 core, .int .i64 fd, .int .i64 ofs, .int .i64 num, .string p1, .string p2, .string dat] 57
                  have hbY : ∀ j u, (Rec.cs ⟨uc, k, kind, core, fd, ofs, num, p1, p2, dat⟩)[j]? = some u → W3.cell? ⟨Y, j, none⟩ = some u := fun j u hu => by rw [cellB HBY.out, ← hu]; simp [Rec.cs]
                  have HK3 : Hid (Kept [] wr W3) := HK2.out.trans HKY.out.1 (by simp)
                  have hFl : ((M.take n).filter (keepB uc uk)).length + 1 ≤ 1000000 := by
                    have h8 := List.length_filter_le (keepB uc uk) (M.take n)
                    have h9 : (M.take n).length ≤ n := by rw [List.length_take]; omega
                    omega
                  obtain ⟨gn, cn, w5, hr5, rr5, gr5, hg5, -⟩ := append_rec (R := (M.take n).filter (keepB uc uk)) (v := .slice ua ((M.take n).filter (keepB uc uk)).length ucp) (HJ.out.2.1.kept HK3.out (by simp)) (Nat.le_trans HJ.out.2.2.size HK3.out.size) Y ⟨uc, k, kind, core, fd, ofs, num, p1, p2, dat⟩ hbY hFl 44
                  have HAp : Hid ((Builtin.append_ #[44, 44] 44 #[.slice ua ((M.take n).filter (keepB uc uk)).length ucp, .slice (some ⟨Y, 0, none⟩) 1 1]).run Try.prog W3 = .ok (.slice (some ⟨gn, 0, none⟩) (((M.take n).filter (keepB uc uk)).length + 1) cn) w5) := hr5
                  rw [← HY.out.1, ← HY.out.2] at HAp
                  have HK5 : Hid (Kept [] WQ w5) := (HJ.out.2.2.trans HK3.out (by simp)).grown gr5 (fun x hx => Or.inr (HJ.out.2.1.block x hx).1)
                  have HR5 : Hid (Rr w5 WQ.heap.size (.slice (some ⟨gn, 0, none⟩) (((M.take n).filter (keepB uc uk)).length + 1) cn) ((M.take (n + 1)).filter (keepB uc uk))) := by rw [HWn.out]; exact rr5
                  have HLn : Hid (((M.take n).filter (keepB uc uk)).length + 1 = ((M.take (n + 1)).filter (keepB uc uk)).length) := by show _ = _; rw [HWn.out]; simp
                  clear hbY hr5 rr5 gr5 hg5 hFl
                  go_wp2_with (at_builtin; refine wpList_append_run _ rfl _ _ 44 44 rfl _ _ rfl rfl _ _ HAp.out ?_)
                  go_roundw
                  case rel => exact ⟨n + 1, some ⟨gn, 0, none⟩, cn, by rw [HLn.out], by go_num, by omega, HMl.out, by rw [← HLn.out]; exact HR5.out, HK5.out⟩
                  case measure => simp [intOf]; omega
                · skip
                  have l1 : ¬ uc < uc := by omega
                  have d1 : decide (uc < uc) = false := decide_eq_false l1
                  have l3 : ¬ uk < k := h3
                  have d3 : decide (uk < k) = false := decide_eq_false l3
                  have HWn : Hid ((M.take (n + 1)).filter (keepB uc uk) = (M.take n).filter (keepB uc uk)) := by
                    show _ = _
                    rw [List.take_succ_eq_append_getElem hnM, List.filter_append, HRe.out]
                    have : keepB uc uk ⟨uc, k, kind, core, fd, ofs, num, p1, p2, dat⟩ = false := by unfold keepB; rw [less_no]; dsimp only; omega
                    simp [this]
                  go_wp2_with fail
                  go_roundw
                  case rel => exact ⟨n + 1, ua, ucp, by rw [HWn.out], by go_num, by omega, HMl.out, by rw [HWn.out]; exact HJ.out.2.1.kept HK2.out (by simp), HJ.out.2.2.trans HK2.out (by simp)⟩
                  case measure => simp [intOf]; omega
              · skip
                have l1 : ¬ uc < a := by omega
                have d1 : decide (uc < a) = false := decide_eq_false l1
                have l2 : (a == uc) = false := by simp; omega
                have HWn : Hid ((M.take (n + 1)).filter (keepB uc uk) = (M.take n).filter (keepB uc uk)) := by
                  show _ = _
                  rw [List.take_succ_eq_append_getElem hnM, List.filter_append, HRe.out]
                  have : keepB uc uk ⟨a, k, kind, core, fd, ofs, num, p1, p2, dat⟩ = false := by unfold keepB; rw [less_no]; dsimp only; omega
                  simp [this]
                go_wp2_with fail
                go_roundw
                case rel => exact ⟨n + 1, ua, ucp, by rw [HWn.out], by go_num, by omega, HMl.out, by rw [HWn.out]; exact HJ.out.2.1.kept HK2.out (by simp), HJ.out.2.2.trans HK2.out (by simp)⟩
                case measure => simp [intOf]; omega
          · have hnn : n = M.length := by omega
            subst hnn
            have j1 : ¬ (M.length : Int) < (M.length : Int) := by omega
            obtain ⟨W, hW⟩ : ∃ W, M.filter (keepB uc uk) = W := ⟨_, rfl⟩
            have HR : Hid (Rr wr WQ.heap.size (.slice ua W.length ucp) W ∧ Kept [] WQ wr) := by
              have := HJ.out.2
              rw [List.take_of_length_le (Nat.le_refl _), hW] at this
              exact this
            rw [List.take_of_length_le (Nat.le_refl _), hW]
            have HL5 : Hid (Lo w1.heap.size wr p g C ∧ Kept [] w1 wr) := ⟨HLQ.out.1.kept0 HR.out.2, HLQ.out.2.trans HR.out.2 (by simp)⟩
            have z0 : wr.cell? ⟨Q, 0, none⟩ = some (.int .i64 uc) := HR.out.2.cell (cellB HBQ.out) (by simp)
            have z1 : wr.cell? ⟨Q, 1, none⟩ = some (.int .i64 uk) := HR.out.2.cell (cellB HBQ.out) (by simp)
            clear HJ
            go_wp2_with fail
            refine (p_drop HL5.out.1 uc uk).mono ?_
            rintro e w6 ⟨D, m, rfl, hD, hDp, hm, k6⟩
            have eD := hDp.all rfl
            have hlenW : totR (D.map Co.R) = W.length := by rw [eD, ← mergeR_length, merge_filter uc uk _ HJ1.out.2.2.1.srt, HM.out, hW]
            have hlenM : totR (C.map Co.R) = M.length := by rw [← HM.out, mergeR_length]
            have HW1 : Hid (∀ x, (Value.slice ua W.length ucp).ownBlock = some x → x ∉ bl p g C) := fun x hx hme => by
              have h1 := (HLQ.out.1.lt x hme).2
              have h2 := (HR.out.1.block x hx).1
              omega
            have HR6 : Hid (Rr w6 WQ.heap.size (.slice ua W.length ucp) W) := HR.out.1.kept k6 (fun x hx e => HW1.out x e hx)
            have y0 := k6.cell z0 HQn.out.1
            have y1 := k6.cell z1 HQn.out.1
            have HL6 : Hid (Lo w1.heap.size w6 p g D ∧ Kept [] w1 w6 ∧ D.length = C.length ∧ D.map Co.R = (C.map Co.R).map (List.filter (keepB uc uk)) ∧ ∀ x, x ∈ bl p g D ↔ x ∈ bl p g C) := ⟨hD, HL5.out.2.trans k6 (fun x hx => Or.inr (HL5.out.1.lt x hx).1), hDp.len, eD, hDp.bl⟩
            have hmE : (m : Int) = (M.length : Int) - (W.length : Int) := by omega
            have hmW : W.length ≤ M.length := by omega
            have HmE : Hid ((m : Int) = (M.length : Int) - (W.length : Int)) := hmE
            clear hD hDp hm k6 eD hlenW hlenM z0 z1 hmE
            go_wp2_with fail
            refine (p_drop HL6.out.1 uc uk).mono ?_
            rintro e w7 ⟨D2, m2, rfl, hD, hDp, hm, k7⟩
            have eD := hDp.all rfl
            rw [HL6.out.2.2.2.1, filter_twice] at eD
            have hm20 : m2 = 0 := by rw [eD, HL6.out.2.2.2.1] at hm; omega
            subst hm20
            have HR7 : Hid (Rr w7 WQ.heap.size (.slice ua W.length ucp) W) := HR6.out.kept k7 (fun x hx e => HW1.out x e ((HL6.out.2.2.2.2 x).1 hx))
            have HL7 : Hid (Lo w1.heap.size w7 p g D2 ∧ Kept [] w1 w7 ∧ mergeR (D2.map Co.R) = W) := ⟨hD, HL6.out.2.1.trans k7 (fun x hx => Or.inr (HL6.out.1.lt x hx).1), by rw [eD, merge_filter uc uk _ HJ1.out.2.2.1.srt, HM.out, hW]⟩
            have b1 : ((m : Int) == (M.length : Int) - (W.length : Int)) = true := by rw [HmE.out]; simp
            have hW63 : W.length ≤ 9223372036854775807 := by omega
            clear hD hDp hm k7 eD y0 y1 hW
            rw [HmE.out]
            go_wp2_with fail
            refine (num 0 _).mono ?_
            rintro e wn ⟨rfl, hw⟩
            have hw2 := hw.symm
            subst hw2
            clear hw
            go_wp2_with fail
            refine (p_merge HL7.out.1).mono ?_
            rintro e w8 ⟨vB, rfl, rB, k8⟩
            rw [HL7.out.2.2] at rB
            obtain ⟨aB, cB, hvB, -⟩ := rB.slice
            subst hvB
            have HR8 : Hid (_) := HR7.out.kept k8 (by simp)
            have HB8 : Hid (_) := rB
            have HK8 : Hid (Kept [] w w8) := (HK.out.trans HL7.out.2.1 (by simp)).trans k8 (by simp)
            clear rB k8
            go_wp2_with fail
            refine (p_same HB8.out HR8.out (by omega)).mono ?_
            rintro e w9 ⟨rfl, k9⟩
            have HK9 : Hid (_) := HK8.out.trans k9 (by simp)
            clear k9
            go_wp2_with fail
            go_ret
            exact ⟨rfl, HK9.out⟩
      · have i1 : ¬ (n : Int) < (len0 : Int) := by omega
        go_wp2_with fail
        refine P.mono ?_
        rintro e w5 ⟨vA, rfl, rA, k5⟩
        obtain ⟨aA, cA, hvA, hcA, hcmA, -⟩ := rA.slice
        subst hvA
        clear P
        obtain ⟨WQ, Q, HWQ, HKQ, HBQ⟩ := box1 w5 #[.int .i64 uc, .int .i64 uk] 35
        have HAll : Hid (Rr WQ wr.heap.size (.slice aA M.length cA) M ∧ Kept [] wr WQ) := ⟨rA.kept HKQ.out.1 (by simp), k5.trans HKQ.out.1 (by simp)⟩
        have HQn : Hid (Q ∉ bl p g C ∧ Q < WQ.heap.size ∧ ∀ x, (Value.slice aA M.length cA).ownBlock = some x → x ∉ bl p g C) := ⟨fun hm => by have h1 := (HJ1.out.1.lt Q hm).2; have h2 := HWQ.out.2; have h3 := k5.size; omega, lt_of_heap HBQ.out, fun x hx hm => by have h1 := (HJ1.out.1.lt x hm).2; have h2 := (rA.block x hx).1; omega⟩
        have HLQ : Hid (Lo w1.heap.size WQ p g C ∧ Kept [] w1 WQ) := ⟨HJ1.out.1.kept0 HAll.out.2, HJ1.out.2.2.2.trans HAll.out.2 (by simp)⟩
        have hMl := HMl.out
        have hcA2 : cA ≤ 9223372036854775807 := by unfold maxLen at hcmA; omega
        clear rA k5
        go_upto_region 10 with fail
        rw [HC.out.2.1, HC.out.2.2, HWQ.out.1, HWQ.out.2]
        clear HWQ HKQ hcmA
        go_wp2_with fail
        go_loopw [12, 13] (fun u i wr => ∃ (n : Nat) (ua : Option Addr) (ucp : Nat), u = .slice ua ((M.take n).filter (keepB uc uk)).length ucp ∧ i = .int .i64 (n : Int) ∧ n ≤ M.length ∧ Hid (M.length ≤ 2048 ∧ Rr wr WQ.heap.size (.slice ua ((M.take n).filter (keepB uc uk)).length ucp) ((M.take n).filter (keepB uc uk)) ∧ Kept [] WQ wr)) (fun _ i _ => (M.length - intOf i).toNat)
        case atStart => exact ⟨0, none, 0, rfl, rfl, by omega, HMl.out, Rr.nil _ _, Kept.refl _ _⟩
        case round =>
          obtain ⟨n, ua, ucp, rfl, rfl, hnle, HJ⟩ := hrel
          by_cases hlt : n < M.length
          · have j0 : (0 : Int) ≤ (n : Int) := by omega
            have j1 : (n : Int) < (M.length : Int) := by omega
            have hnM : n < M.length := hlt
            obtain ⟨r, hr⟩ : ∃ r, M[n] = r := ⟨_, rfl⟩
            have HRe : Hid (M[n] = r) := hr
            obtain ⟨gm, hga, t0, t1, t2, t3, t4, t5, t6, t7, t8, t9⟩ := (HAll.out.1.kept HJ.out.2.2 (by simp)).ten rfl hlt hr
            subst hga
            obtain ⟨a, k, kind, core, fd, ofs, num, p1, p2, dat⟩ := r
            dsimp only at t0 t1 t2 t3 t4 t5 t6 t7 t8 t9
            obtain ⟨W2, X2, HW2, HK2', HB2⟩ := box1 wr #[.int .i64 a, .int .i64 k] 35
            have HK2 : Hid (Kept [] wr W2) := HK2'.out.1
            clear hr
            go_upto_region 15 with fail
            rw [HW2.out.1, HW2.out.2]
            have x0 : W2.cell? ⟨X2, 0, none⟩ = some (.int .i64 a) := cellB HB2.out
            have x1 : W2.cell? ⟨X2, 1, none⟩ = some (.int .i64 k) := cellB HB2.out
            have z0 : W2.cell? ⟨Q, 0, none⟩ = some (.int .i64 uc) := HK2.out.cell (HJ.out.2.2.cell (cellB HBQ.out) (by simp)) (by simp)
            have z1 : W2.cell? ⟨Q, 1, none⟩ = some (.int .i64 uk) := HK2.out.cell (HJ.out.2.2.cell (cellB HBQ.out) (by simp)) (by simp)
            have q0 := HK2.out.cell t0 (by simp)
            have q1 := HK2.out.cell t1 (by simp)
            have q2 := HK2.out.cell t2 (by simp)
            have q3 := HK2.out.cell t3 (by simp)
            have q4 := HK2.out.cell t4 (by simp)
            have q5 := HK2.out.cell t5 (by simp)
            have q6 := HK2.out.cell t6 (by simp)
            have q7 := HK2.out.cell t7 (by simp)
            have q8 := HK2.out.cell t8 (by simp)
            have q9 := HK2.out.cell t9 (by simp)
            clear HW2 HK2' t0 t1 t2 t3 t4 t5 t6 t7 t8 t9
            by_cases h1 : uc < a
            · skip
              have l1 : uc < a := by omega
              have d1 : decide (uc < a) = true := decide_eq_true l1
              have HWn : Hid ((M.take (n + 1)).filter (keepB uc uk) = (M.take n).filter (keepB uc uk) ++ [⟨a, k, kind, core, fd, ofs, num, p1, p2, dat⟩]) := by
                show _ = _
                rw [List.take_succ_eq_append_getElem hnM, List.filter_append, HRe.out]
                have : keepB uc uk ⟨a, k, kind, core, fd, ofs, num, p1, p2, dat⟩ = true := by unfold keepB; rw [less_iff]; dsimp only; omega
                simp [this]
              obtain ⟨W3, Y, HY, HKY, HBY⟩ := box1 W2 #[.int .i64 a, .int .i64 k, .int .i64 kind, .int .i64 core, .int .i64 fd, .int .i64 ofs, .int .i64 num, .string p1, .string p2, .string dat] 57
              have hbY : ∀ j u, (Rec.cs ⟨a, k, kind, core, fd, ofs, num, p1, p2, dat⟩)[j]? = some u → W3.cell? ⟨Y, j, none⟩ = some u := fun j u hu => by rw [cellB HBY.out, ← hu]; simp [Rec.cs]
              have HK3 : Hid (Kept [] wr W3) := HK2.out.trans HKY.out.1 (by simp)
              have hFl : ((M.take n).filter (keepB uc uk)).length + 1 ≤ 1000000 := by
                have h8 := List.length_filter_le (keepB uc uk) (M.take n)
                have h9 : (M.take n).length ≤ n := by rw [List.length_take]; omega
                omega
              obtain ⟨gn, cn, w5, hr5, rr5, gr5, hg5, -⟩ := append_rec (R := (M.take n).filter (keepB uc uk)) (v := .slice ua ((M.take n).filter (keepB uc uk)).length ucp) (HJ.out.2.1.kept HK3.out (by simp)) (Nat.le_trans HJ.out.2.2.size HK3.out.size) Y ⟨a, k, kind, core, fd, ofs, num, p1, p2, dat⟩ hbY hFl 44
              have HAp : Hid ((Builtin.append_ #[44, 44] 44 #[.slice ua ((M.take n).filter (keepB uc uk)).length ucp, .slice (some ⟨Y, 0, none⟩) 1 1]).run Try.prog W3 = .ok (.slice (some ⟨gn, 0, none⟩) (((M.take n).filter (keepB uc uk)).length + 1) cn) w5) := hr5
              rw [← HY.out.1, ← HY.out.2] at HAp
              have HK5 : Hid (Kept [] WQ w5) := (HJ.out.2.2.trans HK3.out (by simp)).grown gr5 (fun x hx => Or.inr (HJ.out.2.1.block x hx).1)
              have HR5 : Hid (Rr w5 WQ.heap.size (.slice (some ⟨gn, 0, none⟩) (((M.take n).filter (keepB uc uk)).length + 1) cn) ((M.take (n + 1)).filter (keepB uc uk))) := by rw [HWn.out]; exact rr5
              have HLn : Hid (((M.take n).filter (keepB uc uk)).length + 1 = ((M.take (n + 1)).filter (keepB uc uk)).length) := by show _ = _; rw [HWn.out]; simp
              clear hbY hr5 rr5 gr5 hg5 hFl
              go_wp2_with (at_builtin; refine wpList_append_run _ rfl _ _ 44 44 rfl _ _ rfl rfl _ _ HAp.out ?_)
              go_roundw
              case rel => exact ⟨n + 1, some ⟨gn, 0, none⟩, cn, by rw [HLn.out], by go_num, by omega, HMl.out, by rw [← HLn.out]; exact HR5.out, HK5.out⟩
              case measure => simp [intOf]; omega
            · by_cases h2 : uc = a
              · subst h2
                by_cases h3 : uk < k
                · skip
                  have l1 : ¬ uc < uc := by omega
                  have d1 : decide (uc < uc) = false := decide_eq_false l1
                  have l3 : uk < k := h3
                  have d3 : decide (uk < k) = true := decide_eq_true l3
                  have HWn : Hid ((M.take (n + 1)).filter (keepB uc uk) = (M.take n).filter (keepB uc uk) ++ [⟨uc, k, kind, core, fd, ofs, num, p1, p2, dat⟩]) := by
                    show _ = _
                    rw [List.take_succ_eq_append_getElem hnM, List.filter_append, HRe.out]
                    have : keepB uc uk ⟨uc, k, kind, core, fd, ofs, num, p1, p2, dat⟩ = true := by unfold keepB; rw [less_iff]; dsimp only; omega
                    simp [this]
                  obtain ⟨W3, Y, HY, HKY, HBY⟩ := box1 W2 #[.int .i64 uc, .int .i64 k, .int .i64 kind, .int .i64 core, .int .i64 fd, .int .i64 ofs, .int .i64 num, .string p1, .string p2, .string dat] 57
                  have hbY : ∀ j u, (Rec.cs ⟨uc, k, kind, core, fd, ofs, num, p1, p2, dat⟩)[j]? = some u → W3.cell? ⟨Y, j, none⟩ = some u := fun j u hu => by rw [cellB HBY.out, ← hu]; simp [Rec.cs]
                  have HK3 : Hid (Kept [] wr W3) := HK2.out.trans HKY.out.1 (by simp)
                  have hFl : ((M.take n).filter (keepB uc uk)).length + 1 ≤ 1000000 := by
                    have h8 := List.length_filter_le (keepB uc uk) (M.take n)
                    have h9 : (M.take n).length ≤ n := by rw [List.length_take]; omega
                    omega
                  obtain ⟨gn, cn, w5, hr5, rr5, gr5, hg5, -⟩ := append_rec (R := (M.take n).filter (keepB uc uk)) (v := .slice ua ((M.take n).filter (keepB uc uk)).length ucp) (HJ.out.2.1.kept HK3.out (by simp)) (Nat.le_trans HJ.out.2.2.size HK3.out.size) Y ⟨uc, k, kind, core, fd, ofs, num, p1, p2, dat⟩ hbY hFl 44
                  have HAp : Hid ((Builtin.append_ #[44, 44] 44 #[.slice ua ((M.take n).filter (keepB uc uk)).length ucp, .slice (some ⟨Y, 0, none⟩) 1 1]).run Try.prog W3 = .ok (.slice (some ⟨gn, 0, none⟩) (((M.take n).filter (keepB uc uk)).length + 1) cn) w5) := hr5
                  rw [← HY.out.1, ← HY.out.2] at HAp
                  have HK5 : Hid (Kept [] WQ w5) := (HJ.out.2.2.trans HK3.out (by simp)).grown gr5 (fun x hx => Or.inr (HJ.out.2.1.block x hx).1)
                  have HR5 : Hid (Rr w5 WQ.heap.size (.slice (some ⟨gn, 0, none⟩) (((M.take n).filter (keepB uc uk)).length + 1) cn) ((M.take (n + 1)).filter (keepB uc uk))) := by rw [HWn.out]; exact rr5
                  have HLn : Hid (((M.take n).filter (keepB uc uk)).length + 1 = ((M.take (n + 1)).filter (keepB uc uk)).length) := by show _ = _; rw [HWn.out]; simp
                  clear hbY hr5 rr5 gr5 hg5 hFl
                  go_wp2_with (at_builtin; refine wpList_append_run _ rfl _ _ 44 44 rfl _ _ rfl rfl _ _ HAp.out ?_)
                  go_roundw
                  case rel => exact ⟨n + 1, some ⟨gn, 0, none⟩, cn, by rw [HLn.out], by go_num, by omega, HMl.out, by rw [← HLn.out]; exact HR5.out, HK5.out⟩
                  case measure => simp [intOf]; omega
                · skip
                  have l1 : ¬ uc < uc := by omega
                  have d1 : decide (uc < uc) = false := decide_eq_false l1
                  have l3 : ¬ uk < k := h3
                  have d3 : decide (uk < k) = false := decide_eq_false l3
                  have HWn : Hid ((M.take (n + 1)).filter (keepB uc uk) = (M.take n).filter (keepB uc uk)) := by
                    show _ = _
                    rw [List.take_succ_eq_append_getElem hnM, List.filter_append, HRe.out]
                    have : keepB uc uk ⟨uc, k, kind, core, fd, ofs, num, p1, p2, dat⟩ = false := by unfold keepB; rw [less_no]; dsimp only; omega
                    simp [this]
                  go_wp2_with fail
                  go_roundw
                  case rel => exact ⟨n + 1, ua, ucp, by rw [HWn.out], by go_num, by omega, HMl.out, by rw [HWn.out]; exact HJ.out.2.1.kept HK2.out (by simp), HJ.out.2.2.trans HK2.out (by simp)⟩
                  case measure => simp [intOf]; omega
              · skip
                have l1 : ¬ uc < a := by omega
                have d1 : decide (uc < a) = false := decide_eq_false l1
                have l2 : (a == uc) = false := by simp; omega
                have HWn : Hid ((M.take (n + 1)).filter (keepB uc uk) = (M.take n).filter (keepB uc uk)) := by
                  show _ = _
                  rw [List.take_succ_eq_append_getElem hnM, List.filter_append, HRe.out]
                  have : keepB uc uk ⟨a, k, kind, core, fd, ofs, num, p1, p2, dat⟩ = false := by unfold keepB; rw [less_no]; dsimp only; omega
                  simp [this]
                go_wp2_with fail
                go_roundw
                case rel => exact ⟨n + 1, ua, ucp, by rw [HWn.out], by go_num, by omega, HMl.out, by rw [HWn.out]; exact HJ.out.2.1.kept HK2.out (by simp), HJ.out.2.2.trans HK2.out (by simp)⟩
                case measure => simp [intOf]; omega
          · have hnn : n = M.length := by omega
            subst hnn
            have j1 : ¬ (M.length : Int) < (M.length : Int) := by omega
            obtain ⟨W, hW⟩ : ∃ W, M.filter (keepB uc uk) = W := ⟨_, rfl⟩
            have HR : Hid (Rr wr WQ.heap.size (.slice ua W.length ucp) W ∧ Kept [] WQ wr) := by
              have := HJ.out.2
              rw [List.take_of_length_le (Nat.le_refl _), hW] at this
              exact this
            rw [List.take_of_length_le (Nat.le_refl _), hW]
            have HL5 : Hid (Lo w1.heap.size wr p g C ∧ Kept [] w1 wr) := ⟨HLQ.out.1.kept0 HR.out.2, HLQ.out.2.trans HR.out.2 (by simp)⟩
            have z0 : wr.cell? ⟨Q, 0, none⟩ = some (.int .i64 uc) := HR.out.2.cell (cellB HBQ.out) (by simp)
            have z1 : wr.cell? ⟨Q, 1, none⟩ = some (.int .i64 uk) := HR.out.2.cell (cellB HBQ.out) (by simp)
            clear HJ
            go_wp2_with fail
            refine (p_drop HL5.out.1 uc uk).mono ?_
            rintro e w6 ⟨D, m, rfl, hD, hDp, hm, k6⟩
            have eD := hDp.all rfl
            have hlenW : totR (D.map Co.R) = W.length := by rw [eD, ← mergeR_length, merge_filter uc uk _ HJ1.out.2.2.1.srt, HM.out, hW]
            have hlenM : totR (C.map Co.R) = M.length := by rw [← HM.out, mergeR_length]
            have HW1 : Hid (∀ x, (Value.slice ua W.length ucp).ownBlock = some x → x ∉ bl p g C) := fun x hx hme => by
              have h1 := (HLQ.out.1.lt x hme).2
              have h2 := (HR.out.1.block x hx).1
              omega
            have HR6 : Hid (Rr w6 WQ.heap.size (.slice ua W.length ucp) W) := HR.out.1.kept k6 (fun x hx e => HW1.out x e hx)
            have y0 := k6.cell z0 HQn.out.1
            have y1 := k6.cell z1 HQn.out.1
            have HL6 : Hid (Lo w1.heap.size w6 p g D ∧ Kept [] w1 w6 ∧ D.length = C.length ∧ D.map Co.R = (C.map Co.R).map (List.filter (keepB uc uk)) ∧ ∀ x, x ∈ bl p g D ↔ x ∈ bl p g C) := ⟨hD, HL5.out.2.trans k6 (fun x hx => Or.inr (HL5.out.1.lt x hx).1), hDp.len, eD, hDp.bl⟩
            have hmE : (m : Int) = (M.length : Int) - (W.length : Int) := by omega
            have hmW : W.length ≤ M.length := by omega
            have HmE : Hid ((m : Int) = (M.length : Int) - (W.length : Int)) := hmE
            clear hD hDp hm k6 eD hlenW hlenM z0 z1 hmE
            go_wp2_with fail
            refine (p_drop HL6.out.1 uc uk).mono ?_
            rintro e w7 ⟨D2, m2, rfl, hD, hDp, hm, k7⟩
            have eD := hDp.all rfl
            rw [HL6.out.2.2.2.1, filter_twice] at eD
            have hm20 : m2 = 0 := by rw [eD, HL6.out.2.2.2.1] at hm; omega
            subst hm20
            have HR7 : Hid (Rr w7 WQ.heap.size (.slice ua W.length ucp) W) := HR6.out.kept k7 (fun x hx e => HW1.out x e ((HL6.out.2.2.2.2 x).1 hx))
            have HL7 : Hid (Lo w1.heap.size w7 p g D2 ∧ Kept [] w1 w7 ∧ mergeR (D2.map Co.R) = W) := ⟨hD, HL6.out.2.1.trans k7 (fun x hx => Or.inr (HL6.out.1.lt x hx).1), by rw [eD, merge_filter uc uk _ HJ1.out.2.2.1.srt, HM.out, hW]⟩
            have b1 : ((m : Int) == (M.length : Int) - (W.length : Int)) = true := by rw [HmE.out]; simp
            have hW63 : W.length ≤ 9223372036854775807 := by omega
            clear hD hDp hm k7 eD y0 y1 hW
            rw [HmE.out]
            go_wp2_with fail
            refine (num 0 _).mono ?_
            rintro e wn ⟨rfl, hw⟩
            have hw2 := hw.symm
            subst hw2
            clear hw
            go_wp2_with fail
            refine (p_merge HL7.out.1).mono ?_
            rintro e w8 ⟨vB, rfl, rB, k8⟩
            rw [HL7.out.2.2] at rB
            obtain ⟨aB, cB, hvB, -⟩ := rB.slice
            subst hvB
            have HR8 : Hid (_) := HR7.out.kept k8 (by simp)
            have HB8 : Hid (_) := rB
            have HK8 : Hid (Kept [] w w8) := (HK.out.trans HL7.out.2.1 (by simp)).trans k8 (by simp)
            clear rB k8
            go_wp2_with fail
            refine (p_same HB8.out HR8.out (by omega)).mono ?_
            rintro e w9 ⟨rfl, k9⟩
            have HK9 : Hid (_) := HK8.out.trans k9 (by simp)
            clear k9
            go_wp2_with fail
            go_ret
            exact ⟨rfl, HK9.out⟩
end Go.Proofs.Ytlecpeofjabndaa
