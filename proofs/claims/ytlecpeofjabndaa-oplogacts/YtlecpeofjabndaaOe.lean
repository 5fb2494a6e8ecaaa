/-
  The reference's Drop.
-/
import Derived.Test.YtlecpeofjabndaaOd
namespace Go.Proofs.Ytlecpeofjabndaa
open Go.RowKit
set_option linter.unusedVariables false
set_option linter.unusedSimpArgs false

theorem oek6 {w w' : World} {b0 o0 b1 o1 b2 o2 b3 o3 b4 o4 b5 o5 : Nat} {v0 v1 v2 v3 v4 v5 : Value} (h : w.cell? ⟨b0, o0, none⟩ = some v0 ∧ w.cell? ⟨b1, o1, none⟩ = some v1 ∧ w.cell? ⟨b2, o2, none⟩ = some v2 ∧ w.cell? ⟨b3, o3, none⟩ = some v3 ∧ w.cell? ⟨b4, o4, none⟩ = some v4 ∧ w.cell? ⟨b5, o5, none⟩ = some v5) (k : Kept [] w w') : w'.cell? ⟨b0, o0, none⟩ = some v0 ∧ w'.cell? ⟨b1, o1, none⟩ = some v1 ∧ w'.cell? ⟨b2, o2, none⟩ = some v2 ∧ w'.cell? ⟨b3, o3, none⟩ = some v3 ∧ w'.cell? ⟨b4, o4, none⟩ = some v4 ∧ w'.cell? ⟨b5, o5, none⟩ = some v5 :=
  ⟨k.cell (h.1) (by simp), k.cell (h.2.1) (by simp), k.cell (h.2.2.1) (by simp), k.cell (h.2.2.2.1) (by simp), k.cell (h.2.2.2.2.1) (by simp), k.cell (h.2.2.2.2.2) (by simp)⟩

/-- The first n cores' records have been dropped up to a stamp, wherever they lie now. -/
structure Dq (ua uk : Int) (n : Nat) (C D : List Co) : Prop where
  len : D.length = C.length
  rows : ∀ i (hi : i < C.length) (hd : i < D.length), (D[i]).R = if i < n then (C[i]).R.filter (keepB ua uk) else (C[i]).R
  sta : ∀ i (hi : i < C.length) (hd : i < D.length), (D[i]).a = (C[i]).a ∧ (D[i]).k = (C[i]).k

theorem Dq.refl (ua uk : Int) (C : List Co) : Dq ua uk 0 C C := ⟨rfl, fun i _ _ => by rw [if_neg (by omega)], fun _ _ _ => ⟨rfl, rfl⟩⟩

theorem Dq.step {ua uk : Int} {n : Nat} {C D : List Co} (h : Dq ua uk n C D) (hn : n < C.length) (hd : n < D.length) {c : Co} (hR : c.R = (D[n]).R.filter (keepB ua uk)) (ha : c.a = (D[n]).a) (hk : c.k = (D[n]).k) : Dq ua uk (n + 1) C (D.set n c) := by
  have gs : ∀ j (hj : j < (D.set n c).length), (j = n ∧ (D.set n c)[j] = c) ∨ (n ≠ j ∧ ∃ hj' : j < D.length, (D.set n c)[j] = D[j]) := fun j hj => by
    have hj' : j < D.length := by simpa using hj
    by_cases e : j = n
    · subst e; exact Or.inl ⟨rfl, by simp⟩
    · exact Or.inr ⟨fun e' => e e'.symm, hj', by rw [List.getElem_set_ne (fun e' => e e'.symm)]⟩
  refine ⟨by simpa using h.len, fun i hi hx => ?_, fun i hi hx => ?_⟩
  · rcases gs i hx with ⟨rfl, e⟩ | ⟨hne, hj, e⟩
    · rw [e, hR, h.rows i hi hd, if_neg (by omega), if_pos (by omega)]
    · rw [e, h.rows i hi hj]
      by_cases c1 : i < n
      · rw [if_pos c1, if_pos (by omega)]
      · rw [if_neg c1, if_neg (by omega)]
  · rcases gs i hx with ⟨rfl, e⟩ | ⟨hne, hj, e⟩
    · rw [e, ha, hk]; exact h.sta i hi hd
    · rw [e]; exact h.sta i hi hj

theorem Dq.all {ua uk : Int} {n : Nat} {C D : List Co} (h : Dq ua uk n C D) (hn : n = C.length) : D.map Co.R = (C.map Co.R).map (List.filter (keepB ua uk)) := by
  apply List.ext_getElem (by simp [h.len])
  intro i h1 h2
  have hi : i < C.length := by simpa using h2
  have hd : i < D.length := by simpa using h1
  have := h.rows i hi hd
  rw [if_pos (by omega)] at this
  simpa using this

set_option maxRecDepth 100000 in
set_option maxHeartbeats 8000000 in
theorem r_drop {H : Nat} {w : World} {q gc gl : Nat} {C : List Co} (h : Re H w q gc gl C) (hH : H ≤ w.heap.size) (ua uk : Int) :
    Calls Try.prog 14 #[.pointer (some ⟨q, 0, none⟩), .agg #[.int .i64 ua, .int .i64 uk]] w fun e w' => ∃ (D : List Co) (m : Nat), e = .returned (.int .i64 (m : Int)) ∧ Re H w' q gc gl D ∧ Dq ua uk C.length C D ∧ m + totR (D.map Co.R) = totR (C.map Co.R) ∧ Kept (rb q gc gl C) w w' ∧ ∀ x ∈ rb q gc gl D, x ∈ rb q gc gl C ∨ w.heap.size ≤ x := by
  obtain ⟨U, Z, HU, HK, HB⟩ := box1 w #[.int .i64 ua, .int .i64 uk] 35
  have HL : Hid (Re H U q gc gl C) := h.kept0 HK.out.1
  obtain ⟨n, hN⟩ : ∃ n, C.length = n := ⟨_, rfl⟩
  have HN : Hid (C.length = n) := hN
  have hn8 := h.chi
  rw [hN] at hn8 ⊢
  have HZ : Hid (Z = w.heap.size ∧ H ≤ w.heap.size) := ⟨HU.out.2.symm, hH⟩
  have HZn : Hid (Z ∉ rb q gc gl C) := fun hm => by have := (h.lt Z hm).2; have := HU.out.2; omega
  have HT : Hid (totR (C.map Co.R) ≤ 2048) := by
    have := totR_le (L := C.map Co.R) (fun l hl => by
      obtain ⟨i, hi, rfl⟩ := List.getElem_of_mem hl
      have := h.len i (by simpa using hi)
      simpa using this)
    simp only [List.length_map] at this
    show _ ≤ _
    omega
  clear h hN hH
  go_enter Try.func14, Try.ntmps14
  go_upto_region 1 with fail
  rw [HU.out.1, HU.out.2]
  clear HU
  go_wp2_with fail
  go_loopw [6, 5] (fun ix mx wr => ∃ (i m : Nat) (D : List Co), ix = .int .i64 (i : Int) ∧ mx = .int .i64 (m : Int) ∧ i ≤ n ∧ Hid (Re H wr q gc gl D ∧ Dq ua uk i C D ∧ m + totR (D.map Co.R) = totR (C.map Co.R) ∧ Kept (rb q gc gl C) w wr ∧ (wr.cell? ⟨Z, 0, none⟩ = some (.int .i64 ua) ∧ wr.cell? ⟨Z, 1, none⟩ = some (.int .i64 uk)) ∧ (∀ x ∈ rb q gc gl D, x ∈ rb q gc gl C ∨ w.heap.size ≤ x) ∧ Z ∉ rb q gc gl D)) (fun ix _ _ => (n - intOf ix).toNat)
  case atStart => exact ⟨0, 0, C, rfl, rfl, by omega, HL.out, Dq.refl _ _ _, by omega, HK.out.1.mono (by simp), ⟨cellB HB.out, cellB HB.out⟩, fun x hx => Or.inl hx, HZn.out⟩
  case round =>
    obtain ⟨i, m, D, rfl, rfl, hi, HI⟩ := hrel
    have HDn : Hid (D.length = n) := HI.out.2.1.len.trans HN.out
    have c0 := HI.out.1.box.1
    rw [HDn.out] at c0
    by_cases hlt : i < n
    · have j0 : (0 : Int) ≤ (i : Int) := by omega
      have j1 : (i : Int) < (n : Int) := by omega
      have hiD : i < D.length := by rw [HDn.out]; exact hlt
      have hiC : i < C.length := by rw [HN.out]; exact hlt
      obtain ⟨av, cv, hv, hvc, hvm, -⟩ := (HI.out.1.each i hiD).slice
      obtain ⟨R, hR⟩ : ∃ R, (D[i]).R = R := ⟨_, rfl⟩
      rw [hR] at hv hvc
      obtain ⟨l, hl⟩ : ∃ l, R.length = l := ⟨_, rfl⟩
      rw [hl] at hv hvc
      have hl256 : l ≤ 256 := by have := HI.out.1.len i hiD; rw [hR, hl] at this; exact this
      have HV : Hid ((D[i]).v = .slice av l cv ∧ (D[i]).R = R ∧ R.length = l) := ⟨hv, hR, hl⟩
      have HRr : Hid (Rr wr H (.slice av l cv) R) := by have := HI.out.1.each i hiD; rw [hv, hR] at this; exact this
      have HC0 : Hid (wr.cell? ⟨q, 0, none⟩ = some (.slice (some ⟨gc, 0, none⟩) n n) ∧ wr.cell? ⟨gc, i, none⟩ = some (.slice av l cv)) := ⟨c0, by rw [HI.out.1.row hiD, hv]⟩
      have HCo : Hid (wr.heap[gc]? = some (.cells (D.map Co.v).toArray 44 (0, 0)) ∧ H ≤ wr.heap.size) := ⟨HI.out.1.cors, Nat.le_trans HZ.out.2 HI.out.2.2.2.1.size⟩
      have hcv : cv ≤ 9223372036854775807 := by unfold maxLen at hvm; omega
      have hfl : (R.filter (keepB ua uk)).length ≤ l := by rw [← hl]; exact List.length_filter_le ..
      have HPut : Hid (∀ (w1 : World) (u : Value), Kept [] wr w1 → Rr w1 wr.heap.size u (R.filter (keepB ua uk)) → Re H (w1.setCell ⟨gc, i, none⟩ u) q gc gl (D.set i ⟨u, R.filter (keepB ua uk), (D[i]).a, (D[i]).k⟩) ∧ (∀ x ∈ rb q gc gl (D.set i ⟨u, R.filter (keepB ua uk), (D[i]).a, (D[i]).k⟩), x ∈ rb q gc gl C ∨ w.heap.size ≤ x) ∧ Kept (rb q gc gl C) w (w1.setCell ⟨gc, i, none⟩ u) ∧ ((w1.setCell ⟨gc, i, none⟩ u).cell? ⟨Z, 0, none⟩ = some (.int .i64 ua) ∧ (w1.setCell ⟨gc, i, none⟩ u).cell? ⟨Z, 1, none⟩ = some (.int .i64 uk)) ∧ Z ∉ rb q gc gl (D.set i ⟨u, R.filter (keepB ua uk), (D[i]).a, (D[i]).k⟩)) := fun w1 u kw ru => by
        have hgc1 : w1.heap[gc]? = some (.cells (D.map Co.v).toArray 44 (0, 0)) := (kw.block gc (lt_of_heap HCo.out.1) (by simp)).trans HCo.out.1
        have hgl1 : w1.heap[gl]? = some (.cells (laC D).toArray 35 (0, 0)) := (kw.block gl (lt_of_heap HI.out.1.las) (by simp)).trans HI.out.1.las
        have k2 : Kept [gc, gl] w1 (w1.setCell ⟨gc, i, none⟩ u) := (Kept.refl _ _).setCell (Or.inl (by simp)) _
        have hput := HI.out.1.put hiD ⟨u, R.filter (keepB ua uk), (D[i]).a, (D[i]).k⟩ (w1 := w1) (w2 := w1.setCell ⟨gc, i, none⟩ u) (kw.mono (by simp)) (ru.low HCo.out.2) (fun x hx => Or.inr (ru.block x hx).1) (by show (R.filter (keepB ua uk)).length ≤ 256; omega) (fun r hr => HI.out.1.small i hiD r (by rw [hR]; exact (List.mem_filter.1 hr).1)) k2 (by rw [block_set hgc1, List.map_set]; simp) (by
          rw [Below.heap_setCell _ _ _ _ (show gl ≠ gc from fun e => HI.out.1.n3 e.symm), hgl1, laC_set _ _ _ hiD]
          obtain ⟨y1, y2⟩ := laC_get D i _ (List.getElem?_eq_getElem hiD)
          dsimp only
          rw [list_set_self (laC D) (i * 2) (.int .i64 (D[i]).a) y1, list_set_self (laC D) (i * 2 + 1) (.int .i64 (D[i]).k) y2])
        have hZgc : gc ≠ Z := fun e => HI.out.2.2.2.2.2.2 (mem_rb.2 (Or.inr (Or.inl e.symm)))
        have zc := k2_kept HI.out.2.2.2.2.1 kw (by simp)
        refine ⟨hput.1, fun x hx => ?_, ?_, ⟨cell_far zc.1 hZgc, cell_far zc.2 hZgc⟩, fun hm => ?_⟩
        · rcases hput.2 x hx with h1 | h1
          · exact HI.out.2.2.2.2.2.1 x h1
          · exact Or.inr (Nat.le_trans HI.out.2.2.2.1.size h1)
        · exact (HI.out.2.2.2.1.trans kw (by simp)).setCell (Or.inl (mem_rb.2 (Or.inr (Or.inl rfl)))) _
        · rcases hput.2 Z hm with h1 | h1
          · exact HI.out.2.2.2.2.2.2 h1
          · have h5 : Z < wr.heap.size := block_lt_of_cell HI.out.2.2.2.2.1.1
            omega
      have HDq : Hid (∀ u, Dq ua uk (i + 1) C (D.set i ⟨u, R.filter (keepB ua uk), (D[i]).a, (D[i]).k⟩) ∧ totR ((D.set i ⟨u, R.filter (keepB ua uk), (D[i]).a, (D[i]).k⟩).map Co.R) + l = totR (D.map Co.R) + (R.filter (keepB ua uk)).length) := fun u => ⟨HI.out.2.1.step hiC hiD (by rw [hR]) rfl rfl, by have := totR_put hiD ⟨u, R.filter (keepB ua uk), (D[i]).a, (D[i]).k⟩; rw [hR, hl] at this; exact this⟩
      have hmT : m + totR (D.map Co.R) ≤ 2048 := by have := HI.out.2.2.1; have := HT.out; omega
      have HZc : Hid (_ ∧ _) := HI.out.2.2.2.2.1
      clear hv hR hl hvm
      go_wp2_with fail
      clear c0
      go_loopw [8, 7, 5] (fun kx u mx wx => ∃ (j : Nat) (la : Option Addr) (lc : Nat), kx = .int .i64 (j : Int) ∧ u = .slice la ((R.take j).filter (keepB ua uk)).length lc ∧ mx = .int .i64 ((m + (j - ((R.take j).filter (keepB ua uk)).length) : Nat) : Int) ∧ j ≤ l ∧ Hid (Rr wx wr.heap.size (.slice la ((R.take j).filter (keepB ua uk)).length lc) ((R.take j).filter (keepB ua uk)) ∧ Kept [] wr wx)) (fun kx _ _ _ => (l - intOf kx).toNat)
      case atStart => exact ⟨0, none, 0, rfl, rfl, by simp, by omega, Rr.nil _ _, Kept.refl _ _⟩
      case round =>
        obtain ⟨j, la, lc, rfl, rfl, rfl, hj, HJ⟩ := hrel
        obtain ⟨x0, x1⟩ := HC0.out
        have y0 := HJ.out.2.cell x0 (by simp)
        have y1 := HJ.out.2.cell x1 (by simp)
        clear x0 x1
        by_cases hjl : j < l
        · have k0 : (0 : Int) ≤ (j : Int) := by omega
          have k1 : (j : Int) < (l : Int) := by omega
          have hjR : j < R.length := by rw [HV.out.2.2]; exact hjl
          obtain ⟨r, hr⟩ : ∃ r, R[j] = r := ⟨_, rfl⟩
          have HRe : Hid (R[j] = r) := hr
          obtain ⟨gm, hga, q0, q1, q2, q3, q4, q5, q6, q7, q8, q9⟩ := (HRr.out.kept HJ.out.2 (by simp)).ten rfl hjR hr
          subst hga
          obtain ⟨a, k, kind, core, fd, ofs, num, p1, p2, dat⟩ := r
          dsimp only at q0 q1 q2 q3 q4 q5 q6 q7 q8 q9
          have zz := k2_kept HZc.out HJ.out.2 (by simp)
          have HS : Hid (wr.cell? ⟨Z, 0, none⟩ = some (.int .i64 ua) ∧ wr.cell? ⟨Z, 1, none⟩ = some (.int .i64 uk) ∧ wr.cell? ⟨q, 0, none⟩ = some (.slice (some ⟨gc, 0, none⟩) n n) ∧ wr.cell? ⟨gc, i, none⟩ = some (.slice (some ⟨gm, 0, none⟩) l cv) ∧ wr.cell? ⟨gm, j * 10, none⟩ = some (.int .i64 a) ∧ wr.cell? ⟨gm, j * 10 + 1, none⟩ = some (.int .i64 k)) := ⟨zz.1, zz.2, y0, y1, q0, q1⟩
          have hfj : ((R.take j).filter (keepB ua uk)).length ≤ j := by
            have h8 := List.length_filter_le (keepB ua uk) (R.take j)
            have h9 : (R.take j).length ≤ j := by rw [List.length_take]; omega
            omega
          clear hr
          go_upto_region 9 with fail
          refine wp_region_held_drew (S := fun w' => w'.cell? ⟨Z, 0, none⟩ = some (.int .i64 ua) ∧ w'.cell? ⟨Z, 1, none⟩ = some (.int .i64 uk) ∧ w'.cell? ⟨q, 0, none⟩ = some (.slice (some ⟨gc, 0, none⟩) n n) ∧ w'.cell? ⟨gc, i, none⟩ = some (.slice (some ⟨gm, 0, none⟩) l cv) ∧ w'.cell? ⟨gm, j * 10, none⟩ = some (.int .i64 a) ∧ w'.cell? ⟨gm, j * 10 + 1, none⟩ = some (.int .i64 k)) (by kernel_rfl) ?_ (fun hHeld => ?_)
          · exact HS.out
          obtain ⟨u0, hu0⟩ : ∃ u0, wr.drew = u0 := ⟨_, rfl⟩
          have HKu : Hid (Kept [] wr u0) := by rw [← hu0]; exact (Kept.refl [] wr).drew
          rw [hu0] at hHeld ⊢
          clear hu0
          refine wpAnyH_take (i := 0) (v := ?vk0) rfl (by kernel_rfl) (by kernel_rfl) (by kernel_rfl) (fun _ _ _ h => h) (Or.inl ⟨by rfl, ?hyk0⟩) (by assumption) ?_
          case hyk0 =>
            intro w hSw
            (try dsimp only at hSw)
            go_simp
            try with_reducible rfl
          try simp only [Act.put, List.setIfInBounds_toArray, List.set_cons_zero, List.set_cons_succ, List.getElem_toArray, List.getElem_cons_zero, List.getElem_cons_succ]
          refine wpAnyH_take (i := 1) (v := ?vk1) rfl (by kernel_rfl) (by kernel_rfl) (by kernel_rfl) (fun _ _ _ h => h) (Or.inl ⟨by rfl, ?hyk1⟩) (by assumption) ?_
          case hyk1 =>
            intro w hSw
            (try dsimp only at hSw)
            go_simp
            try with_reducible rfl
          try simp only [Act.put, List.setIfInBounds_toArray, List.set_cons_zero, List.set_cons_succ, List.getElem_toArray, List.getElem_cons_zero, List.getElem_cons_succ]
          refine wpAnyH_take (i := 2) (v := ?vk2) rfl (by kernel_rfl) (by kernel_rfl) (by kernel_rfl) (fun _ _ _ h => h) (Or.inl ⟨by rfl, ?hyk2⟩) (by assumption) ?_
          case hyk2 =>
            intro w hSw
            (try dsimp only at hSw)
            go_simp
            try with_reducible rfl
          try simp only [Act.put, List.setIfInBounds_toArray, List.set_cons_zero, List.set_cons_succ, List.getElem_toArray, List.getElem_cons_zero, List.getElem_cons_succ]
          refine wpAnyH_take (i := 3) (v := ?vk3) rfl (by kernel_rfl) (by kernel_rfl) (by kernel_rfl) (fun _ _ _ h => h) (Or.inl ⟨by rfl, ?hyk3⟩) (by assumption) ?_
          case hyk3 =>
            intro w hSw
            (try dsimp only at hSw)
            go_simp
            try with_reducible rfl
          try simp only [Act.put, List.setIfInBounds_toArray, List.set_cons_zero, List.set_cons_succ, List.getElem_toArray, List.getElem_cons_zero, List.getElem_cons_succ]
          refine wpAnyH_take (i := 4) (v := ?vk4) rfl (by kernel_rfl) (by kernel_rfl) (by kernel_rfl) (fun _ _ _ h => h) (Or.inl ⟨by rfl, ?hyk4⟩) (by assumption) ?_
          case hyk4 =>
            intro w hSw
            (try dsimp only at hSw)
            go_simp
            try with_reducible rfl
          try simp only [Act.put, List.setIfInBounds_toArray, List.set_cons_zero, List.set_cons_succ, List.getElem_toArray, List.getElem_cons_zero, List.getElem_cons_succ]
          refine wpAnyH_take (i := 5) (v := ?vk5) rfl (by kernel_rfl) (by kernel_rfl) (by kernel_rfl) (fun _ _ _ h => h) (Or.inl ⟨by rfl, ?hyk5⟩) (by assumption) ?_
          case hyk5 =>
            intro w hSw
            (try dsimp only at hSw)
            go_simp
            try with_reducible rfl
          try simp only [Act.put, List.setIfInBounds_toArray, List.set_cons_zero, List.set_cons_succ, List.getElem_toArray, List.getElem_cons_zero, List.getElem_cons_succ]
          refine wpAnyH_take (i := 6) (v := ?vk6) rfl (by kernel_rfl) (by kernel_rfl) (by kernel_rfl) (fun _ _ _ h => h) (Or.inl ⟨by rfl, ?hyk6⟩) (by assumption) ?_
          case hyk6 =>
            intro w hSw
            (try dsimp only at hSw)
            go_simp
            try with_reducible rfl
          try simp only [Act.put, List.setIfInBounds_toArray, List.set_cons_zero, List.set_cons_succ, List.getElem_toArray, List.getElem_cons_zero, List.getElem_cons_succ]
          refine wpAnyH_take (i := 7) (v := ?vk7) rfl (by kernel_rfl) (by kernel_rfl) (by kernel_rfl) (fun _ _ _ h => h) (Or.inl ⟨by rfl, ?hyk7⟩) (by assumption) ?_
          case hyk7 =>
            intro w hSw
            (try dsimp only at hSw)
            go_simp
            try with_reducible rfl
          try simp only [Act.put, List.setIfInBounds_toArray, List.set_cons_zero, List.set_cons_succ, List.getElem_toArray, List.getElem_cons_zero, List.getElem_cons_succ]
          refine wpAnyH_take (i := 8) (v := ?vk8) rfl (by kernel_rfl) (by kernel_rfl) (by kernel_rfl) (fun _ _ _ h => h) (Or.inl ⟨by rfl, ?hyk8⟩) (by assumption) ?_
          case hyk8 =>
            intro w hSw
            (try dsimp only at hSw)
            go_simp
            try with_reducible rfl
          try simp only [Act.put, List.setIfInBounds_toArray, List.set_cons_zero, List.set_cons_succ, List.getElem_toArray, List.getElem_cons_zero, List.getElem_cons_succ]
          refine wpAnyH_take (i := 9) (v := ?vk9) rfl (by kernel_rfl) (by kernel_rfl) (by kernel_rfl) (fun _ _ _ h => h) (Or.inl ⟨by rfl, ?hyk9⟩) (by assumption) ?_
          case hyk9 =>
            intro w hSw
            (try dsimp only at hSw)
            go_simp
            try with_reducible rfl
          try simp only [Act.put, List.setIfInBounds_toArray, List.set_cons_zero, List.set_cons_succ, List.getElem_toArray, List.getElem_cons_zero, List.getElem_cons_succ]
          refine wpAnyH_take (i := 10) (v := ?vk10) rfl (by kernel_rfl) (by kernel_rfl) (by kernel_rfl) (fun _ _ _ h => h) (Or.inl ⟨by rfl, ?hyk10⟩) (by assumption) ?_
          case hyk10 =>
            intro w hSw
            (try dsimp only at hSw)
            go_simp
            try with_reducible rfl
          try simp only [Act.put, List.setIfInBounds_toArray, List.set_cons_zero, List.set_cons_succ, List.getElem_toArray, List.getElem_cons_zero, List.getElem_cons_succ]
          refine wpAnyH_take (i := 11) (v := ?vk11) rfl (by kernel_rfl) (by kernel_rfl) (by kernel_rfl) (fun _ _ _ h => h) (Or.inl ⟨by rfl, ?hyk11⟩) (by assumption) ?_
          case hyk11 =>
            intro w hSw
            (try dsimp only at hSw)
            go_simp
            try with_reducible rfl
          try simp only [Act.put, List.setIfInBounds_toArray, List.set_cons_zero, List.set_cons_succ, List.getElem_toArray, List.getElem_cons_zero, List.getElem_cons_succ]
          refine wpAnyH_ready (rs := [12]) (by kernel_rfl) (by simp) ?_
          refine AllReadyH.cons rfl (fun K hK => ?_) AllReadyH.nil
          go_simp
          refine (r_less ua uk a k _).mono ?_
          rintro e w5 ⟨rfl, k5⟩
          have HK5 : Hid (Kept [] wr w5) := HKu.out.trans k5 (by simp)
          have HS5 : Hid (_) := oek6 hHeld k5
          clear k5
          go_wp2_with fail
          refine hK.out _ _ ?_ (fun hHeld => ?_)
          · exact HS5.out
          clear hK K
          try simp only [Act.put, List.setIfInBounds_toArray, List.set_cons_zero, List.set_cons_succ, List.getElem_toArray, List.getElem_cons_zero, List.getElem_cons_succ]
          refine wpAnyH_done (by kernel_rfl) ?_ _
          have x0 := HK5.out.cell y0 (by simp)
          have x1 := HK5.out.cell y1 (by simp)
          have p0' := HK5.out.cell q0 (by simp)
          have p1' := HK5.out.cell q1 (by simp)
          have p2' := HK5.out.cell q2 (by simp)
          have p3' := HK5.out.cell q3 (by simp)
          have p4' := HK5.out.cell q4 (by simp)
          have p5' := HK5.out.cell q5 (by simp)
          have p6' := HK5.out.cell q6 (by simp)
          have p7' := HK5.out.cell q7 (by simp)
          have p8' := HK5.out.cell q8 (by simp)
          have p9' := HK5.out.cell q9 (by simp)
          clear hHeld HS HS5 y0 y1 q0 q1 q2 q3 q4 q5 q6 q7 q8 q9 zz
          rcases hb : lessS ua uk a k with _ | _
          · have HF : Hid ((R.take (j + 1)).filter (keepB ua uk) = (R.take j).filter (keepB ua uk)) := by
              show _ = _
              rw [List.take_succ_eq_append_getElem hjR, List.filter_append, HRe.out]
              have : keepB ua uk ⟨a, k, kind, core, fd, ofs, num, p1, p2, dat⟩ = false := hb
              simp [this]
            clear hb
            go_wp2_with fail
            go_roundw
            case rel => exact ⟨j + 1, la, lc, by go_num, by rw [HF.out], by rw [HF.out]; refine congrArg (Value.int IntKind.i64) ?_; omega, by omega, by rw [HF.out]; exact HJ.out.1.kept HK5.out (by simp), HJ.out.2.trans HK5.out (by simp)⟩
            case measure => simp [intOf]; omega
          · have HF : Hid ((R.take (j + 1)).filter (keepB ua uk) = (R.take j).filter (keepB ua uk) ++ [⟨a, k, kind, core, fd, ofs, num, p1, p2, dat⟩]) := by
              show _ = _
              rw [List.take_succ_eq_append_getElem hjR, List.filter_append, HRe.out]
              have : keepB ua uk ⟨a, k, kind, core, fd, ofs, num, p1, p2, dat⟩ = true := hb
              simp [this]
            obtain ⟨W3, Y, HY, HKY, HBY⟩ := box1 w5 #[.int .i64 a, .int .i64 k, .int .i64 kind, .int .i64 core, .int .i64 fd, .int .i64 ofs, .int .i64 num, .string p1, .string p2, .string dat] 57
            have hbY : ∀ j u, (Rec.cs ⟨a, k, kind, core, fd, ofs, num, p1, p2, dat⟩)[j]? = some u → W3.cell? ⟨Y, j, none⟩ = some u := fun j u hu => by rw [cellB HBY.out, ← hu]; simp [Rec.cs]
            have HK3 : Hid (Kept [] wr W3) := HK5.out.trans HKY.out.1 (by simp)
            obtain ⟨gn, cn, w6, hr6, rr6, gr6, hg6, -⟩ := append_rec (R := (R.take j).filter (keepB ua uk)) (v := .slice la ((R.take j).filter (keepB ua uk)).length lc) (HJ.out.1.kept HK3.out (by simp)) (Nat.le_trans HJ.out.2.size HK3.out.size) Y ⟨a, k, kind, core, fd, ofs, num, p1, p2, dat⟩ hbY (by omega) 44
            have HAp : Hid ((Builtin.append_ #[44, 44] 44 #[.slice la ((R.take j).filter (keepB ua uk)).length lc, .slice (some ⟨Y, 0, none⟩) 1 1]).run Try.prog W3 = .ok (.slice (some ⟨gn, 0, none⟩) (((R.take j).filter (keepB ua uk)).length + 1) cn) w6) := hr6
            rw [← HY.out.1, ← HY.out.2] at HAp
            have HK6 : Hid (_) := (HJ.out.2.trans HK3.out (by simp)).grown gr6 (fun x hx => Or.inr (HJ.out.1.block x hx).1)
            have HLn : Hid (((R.take j).filter (keepB ua uk)).length + 1 = ((R.take (j + 1)).filter (keepB ua uk)).length) := by show _ = _; rw [HF.out]; simp
            have HR6 : Hid (_) := rr6
            rw [← HF.out] at HR6
            clear hbY hr6 rr6 gr6 hg6 hb
            go_wp2_with (at_builtin; refine wpList_append_run _ rfl _ _ 44 44 rfl _ _ rfl rfl _ _ HAp.out ?_)
            go_roundw
            case rel => exact ⟨j + 1, some ⟨gn, 0, none⟩, cn, by go_num, by rw [HLn.out], by rw [← HLn.out]; refine congrArg (Value.int IntKind.i64) ?_; omega, by omega, by rw [← HLn.out]; exact HR6.out, HK6.out⟩
            case measure => simp [intOf]; omega
        · have hjl2 : j = l := by omega
          have k1 : ¬ (j : Int) < (l : Int) := by omega
          have HE : Hid ((R.take j).filter (keepB ua uk) = R.filter (keepB ua uk)) := by show _ = _; rw [List.take_of_length_le (by have := HV.out.2.2; omega)]
          have HJ2 : Hid (_ ∧ _) := HJ.out
          rw [HE.out] at HJ2
          rw [HE.out]
          clear HJ
          obtain ⟨fl, hfl2⟩ : ∃ fl, (R.filter (keepB ua uk)).length = fl := ⟨_, rfl⟩
          have HFl : Hid ((R.filter (keepB ua uk)).length = fl) := hfl2
          rw [hfl2] at hfl ⊢
          rw [hfl2] at HJ2
          have hgc2 : wr.heap[gc]? = some (.cells (D.map Co.v).toArray 44 (0, 0)) := (HJ2.out.2.block gc (lt_of_heap HCo.out.1) (by simp)).trans HCo.out.1
          have f0 := frozen_of hgc2 i
          have HP : Hid (_ ∧ _ ∧ _ ∧ _ ∧ _) := HPut.out wr _ HJ2.out.2 HJ2.out.1
          have HQ : Hid (_ ∧ _) := HDq.out (.slice la fl lc)
          have hmm : m + (j - fl) + totR ((D.set i ⟨.slice la fl lc, R.filter (keepB ua uk), (D[i]).a, (D[i]).k⟩).map Co.R) = totR (C.map Co.R) := by
            have h5 := HQ.out.2
            have h6 := HI.out.2.2.1
            omega
          have HMM : Hid (_ = _) := hmm
          clear hgc2 hfl2 hmm
          go_wp2_with fail
          go_roundw
          case rel => exact ⟨i + 1, m + (j - fl), _, by go_num, rfl, by omega, HP.out.1, HQ.out.1, HMM.out, HP.out.2.2.1, HP.out.2.2.2.1, HP.out.2.1, HP.out.2.2.2.2⟩
          case measure => simp [intOf]; omega
    · have hin : i = n := by omega
      subst hin
      have j1 : ¬ (i : Int) < (i : Int) := by omega
      go_wp2_with fail
      go_ret
      exact ⟨D, m, rfl, HI.out.1, HI.out.2.1, HI.out.2.2.1, HI.out.2.2.2.1, HI.out.2.2.2.2.2.1⟩

end Go.Proofs.Ytlecpeofjabndaa
