/-
  freed: one that is had is freed, or what is none is not.
-/
import Derived.Test.YtagnkdeeiligcaaDoorJm
namespace Go.Proofs.YtagnkdeeiligcaaDoor
open Go.RowKit

/-- What freed leaves. -/
def Freed (w0 : World) (b x k f s B q' n : Nat) (e : Ending) (w' : World) : Prop :=
  e = .returned (.bool true) ∧ ∃ A' P' v' bs', JM w0 w' b x k f s B A' P' q' v' bs' ∧ Rel k f s P' bs' ∧ bs'.length ≤ n

set_option maxRecDepth 100000 in
set_option maxHeartbeats 4000000 in
theorem freed_none {w0 w : World} {b x k f s B : Nat} {A : Ar} {P : Nat → List Pc} {q : Nat} {v : Value} {bs : List Blk} (h : JM w0 w b x k f s B A P q v bs) (hr : Rel k f s P bs) (q' : Nat) (hq : q' + 200 ≤ q) (kd co sz K : Int) (hn : bs.length ≤ 1000) (hc : bs = [] ∨ K < 0) :
    Calls Tryd.prog 10 #[.pointer (some ⟨x, 0, none⟩), .pointer (some ⟨B, 0, none⟩), .agg #[.int .i64 kd, .int .i64 co, .int .i64 sz, .int .i64 K]] w (Freed w0 b x k f s B q' bs.length) := by
  have hK : Kept [] w (w.alloc (.cells #[.int .i64 kd, .int .i64 co, .int .i64 sz, .int .i64 K] 33)) := (Kept.refl _ _).alloc _
  have hY := Go.heap_alloc_new w (.cells #[.int .i64 kd, .int .i64 co, .int .i64 sz, .int .i64 K] 33)
  have h1 := h.still hK
  obtain ⟨a, cap, rfl, -⟩ := h1.own.read
  have cB : (w.alloc (.cells #[.int .i64 kd, .int .i64 co, .int .i64 sz, .int .i64 K] 33)).cell? ⟨B, 0, none⟩ = some (.slice a bs.length cap) := cellB h1.cell
  have y1 : (w.alloc (.cells #[.int .i64 kd, .int .i64 co, .int .i64 sz, .int .i64 K] 33)).cell? ⟨w.heap.size, 1, none⟩ = some (.int .i64 co) := cellB hY
  have y3 : (w.alloc (.cells #[.int .i64 kd, .int .i64 co, .int .i64 sz, .int .i64 K] 33)).cell? ⟨w.heap.size, 3, none⟩ = some (.int .i64 K) := cellB hY
  have hfree := d_none h1.d q' (by omega) co K (fun n hnc hnk pc hpc e => by
    rw [hr.rel n hnk] at hpc
    rcases hc with h2 | h2
    · subst h2; simp at hpc
    · omega)
  have HX : Hid (_ ∧ _ ∧ _) := ⟨h1, hr, hfree⟩
  clear h h1 hK hY hr hfree
  by_cases h0 : bs.length = 0
  · have b0 : ((bs.length : Int) == 0) = true := by simp only [beq_iff_eq]; omega
    go_enter Tryd.func10, Tryd.ntmps10
    go_wp2_with fail
    refine HX.out.2.2.mono ?_
    rintro e w2 ⟨rfl, A2, d2, s2⟩
    have H2 : Hid (_) := HX.out.1.keep d2 s2
    clear d2 s2
    go_wp2_with (first
      | (go_at_call 9; refine (num _ _).mono ?_; rintro e w' ⟨rfl, hw'⟩; subst hw'))
    go_ret
    exact ⟨rfl, A2, P, _, bs, H2.out, HX.out.2.1, Nat.le_refl _⟩
  · have b0 : ((bs.length : Int) == 0) = false := by simp only [beq_eq_false_iff_ne, ne_eq]; omega
    have hK0 : K < 0 := by
      rcases hc with h2 | h2
      · subst h2; simp at h0
      · exact h2
    have b1 : decide (K < 0) = true := by simpa using hK0
    go_enter Tryd.func10, Tryd.ntmps10
    go_wp2_with fail
    refine HX.out.2.2.mono ?_
    rintro e w2 ⟨rfl, A2, d2, s2⟩
    have H2 : Hid (_) := HX.out.1.keep d2 s2
    clear d2 s2
    go_wp2_with (first
      | (go_at_call 9; refine (num _ _).mono ?_; rintro e w' ⟨rfl, hw'⟩; subst hw'))
    go_ret
    exact ⟨rfl, A2, P, _, bs, H2.out, HX.out.2.1, Nat.le_refl _⟩

set_option maxRecDepth 100000 in
set_option maxHeartbeats 8000000 in
theorem freed_some {w0 w : World} {b x k f s B : Nat} {A : Ar} {P : Nat → List Pc} {q : Nat} {v : Value} {bs : List Blk} (h : JM w0 w b x k f s B A P q v bs) (hr : Rel k f s P bs) (hT : Tab w0) (q' : Nat) (hq : q' + 200 ≤ q) (kd co sz : Int) (K : Nat) (hn : bs.length ≤ 1000) (hb : 0 < bs.length) :
    Calls Tryd.prog 10 #[.pointer (some ⟨x, 0, none⟩), .pointer (some ⟨B, 0, none⟩), .agg #[.int .i64 kd, .int .i64 co, .int .i64 sz, .int .i64 (K : Int)]] w (Freed w0 b x k f s B q' bs.length) := by
  have hK : Kept [] w (w.alloc (.cells #[.int .i64 kd, .int .i64 co, .int .i64 sz, .int .i64 (K : Int)] 33)) := (Kept.refl _ _).alloc _
  have hY := Go.heap_alloc_new w (.cells #[.int .i64 kd, .int .i64 co, .int .i64 sz, .int .i64 (K : Int)] 33)
  have h1 := h.still hK
  obtain ⟨a, cap, rfl, hrd⟩ := h1.own.read
  obtain ⟨kk, hkk⟩ : ∃ kk, K % bs.length = kk := ⟨_, rfl⟩
  have hkl : kk < bs.length := by rw [← hkk]; exact Nat.mod_lt _ hb
  obtain ⟨g, ea, r0, r1, r2⟩ := hrd kk hkl
  subst ea
  have cB : (w.alloc (.cells #[.int .i64 kd, .int .i64 co, .int .i64 sz, .int .i64 (K : Int)] 33)).cell? ⟨B, 0, none⟩ = some (.slice (some ⟨g, 0, none⟩) bs.length cap) := cellB h1.cell
  have y3 : (w.alloc (.cells #[.int .i64 kd, .int .i64 co, .int .i64 sz, .int .i64 (K : Int)] 33)).cell? ⟨w.heap.size, 3, none⟩ = some (.int .i64 (K : Int)) := cellB hY
  obtain ⟨⟨c, t, z⟩, hy⟩ : ∃ y, bs[kk] = y := ⟨_, rfl⟩
  rw [hy] at r0 r1 r2
  simp only at r0 r1 r2
  have hparts := erase_parts bs kk hkl
  rw [hy] at hparts
  have hr' := hr
  rw [hparts] at hr'
  have hpl := hr'.place (c, t, z) (by simp)
  simp only at hpl
  have b0 : ((bs.length : Int) == 0) = false := by simp only [beq_eq_false_iff_ne, ne_eq]; omega
  have b1 : decide ((K : Int) < 0) = false := by simp
  have hmod : (K : Int).tmod (bs.length : Int) = (kk : Int) := by
    rw [Int.tmod_eq_emod_of_nonneg (by omega), ← hkk]; simp
  have hmod2 : (K : Int) % (bs.length : Int) = (kk : Int) := by rw [← hkk]; simp
  have j0 : (0 : Int) ≤ (kk : Int) := by omega
  have j1 : (kk : Int) < (bs.length : Int) := by omega
  have j2 : (0 : Int) < (bs.length : Int) := by omega
  have HX : Hid (_ ∧ _ ∧ _ ∧ _ ∧ _) := ⟨h1, hr', hT, hpl, hy⟩
  have HP : Hid (_) := hparts
  clear h h1 hK hY hr hr' hT hpl hy hparts hrd hkk
  go_enter Tryd.func10, Tryd.ntmps10
  go_wp2_with fail
  go_quiet (fail)
  have hKW : Kept [] (w.alloc (.cells #[.int .i64 kd, .int .i64 co, .int .i64 sz, .int .i64 (K : Int)] 33)) ((w.alloc (.cells #[.int .i64 kd, .int .i64 co, .int .i64 sz, .int .i64 (K : Int)] 33)).drewN nq) := (Kept.refl _ _).drewN nq
  have r0W := hKW.cell r0 (by simp)
  have r1W := hKW.cell r1 (by simp)
  have r2W := hKW.cell r2 (by simp)
  have cBW := hKW.cell cB (by simp)
  have hJW := HX.out.1.still hKW
  obtain ⟨W, hW⟩ : ∃ W, W = (w.alloc (.cells #[.int .i64 kd, .int .i64 co, .int .i64 sz, .int .i64 (K : Int)] 33)).drewN nq := ⟨_, rfl⟩
  rw [← hW] at r0W r1W r2W cBW hJW ⊢
  clear hW hKW r0 r1 r2 cB y3
  have hfit : t + z ≤ f + c * s + s := by
    have h2 := hJW.d.st.inv c HX.out.2.2.2.1.1
    rw [show P c = _ from HX.out.2.1.mid] at h2
    have h3 := h2.ok.fit (t - heap (f + c * s) s, z) (by simp)
    have h4 := heap_room (a := f + c * s) hJW.d.st.slo
    have h5 := HX.out.2.2.2.1.2
    simp only at h3
    omega
  have hKX : Kept [] W (W.alloc (.cells #[.int .i64 (c : Int), .int .i64 (t : Int), .int .i64 (z : Int)] 39)) := (Kept.refl _ _).alloc _
  have hX := Go.heap_alloc_new W (.cells #[.int .i64 (c : Int), .int .i64 (t : Int), .int .i64 (z : Int)] 39)
  have dE := hJW.d.more hKX (W.heap.size :: B :: (Value.slice (some ⟨g, 0, none⟩) bs.length cap).ownBlock.toList) (fun i hi => by
    rcases List.mem_cons.1 hi with h1 | h1
    · exact Or.inr (by simp; omega)
    · exact Or.inl h1)
  have hJX := hJW.still hKX
  have z0 : (W.alloc (.cells #[.int .i64 (c : Int), .int .i64 (t : Int), .int .i64 (z : Int)] 39)).cell? ⟨W.heap.size, 0, none⟩ = some (.int .i64 (c : Int)) := cellB hX
  have z1 : (W.alloc (.cells #[.int .i64 (c : Int), .int .i64 (t : Int), .int .i64 (z : Int)] 39)).cell? ⟨W.heap.size, 1, none⟩ = some (.int .i64 (t : Int)) := cellB hX
  have hck := HX.out.2.2.2.1.1
  have hslo := hJW.d.st.slo
  have hc1 := d_none dE (q' + 100) (by omega) ((c : Int) + 1) (t : Int) (fun n hnc hnk pc hpc e => by
    have h6 := mul_next s (show c < n by omega)
    have h7 := heap_room (a := f + n * s) hslo
    omega)
  have hk8 := hJW.d.st.cores
  have HY : Hid (_ ∧ _ ∧ _ ∧ _) := ⟨hc1, hJX, hX, hck⟩
  have hcs : c ≤ 100 := by
    obtain ⟨p, -, -, hp, -⟩ := hJW.d.ex
    have := hp.chi
    rw [hk8] at this
    omega
  clear hc1 hJX hX hck hslo dE hKX hJW hk8
  go_wp2_with fail
  refine HY.out.1.mono ?_
  rintro e w2 ⟨rfl, A2, d2, s2⟩
  have hX2 : w2.heap[W.heap.size]? = some (.cells #[.int .i64 (c : Int), .int .i64 (t : Int), .int .i64 (z : Int)] 39 (0, 0)) := by rw [s2 _ (List.mem_cons_self)]; exact HY.out.2.2.1
  have u0 : w2.cell? ⟨W.heap.size, 0, none⟩ = some (.int .i64 (c : Int)) := cellB hX2
  have u1 : w2.cell? ⟨W.heap.size, 1, none⟩ = some (.int .i64 (t : Int)) := cellB hX2
  have hc2 := d_free d2 HX.out.2.2.1 HY.out.2.2.2 q' (by omega) (show P c = _ from HX.out.2.1.mid)
  simp only at hc2
  rw [show heap (f + c * s) s + (t - heap (f + c * s) s) = t from by have := HX.out.2.2.2.1.2; omega] at hc2
  have H2 : Hid (_ ∧ _ ∧ _) := ⟨hc2, s2, d2⟩
  clear hc2 s2 d2 hX2 z0 z1 r0W r1W r2W cBW
  go_wp2_with fail
  refine H2.out.1.mono ?_
  rintro e w3 ⟨rfl, A3, d3, s3⟩
  have hsub : ∀ i ∈ B :: (Value.slice (some ⟨g, 0, none⟩) bs.length cap).ownBlock.toList, i ∈ W.heap.size :: B :: (Value.slice (some ⟨g, 0, none⟩) bs.length cap).ownBlock.toList := fun i hi => List.mem_cons_of_mem _ hi
  have hJ3 := HY.out.2.1.keep (d3.more (Kept.refl _ _) _ (fun i hi => Or.inl (hsub i hi))) (fun i hi => ((H2.out.2.1.trans s3) i (hsub i hi)))
  obtain ⟨a3, cap3, e3, hrd3⟩ := hJ3.own.read
  have cB3 : w3.cell? ⟨B, 0, none⟩ = some (.slice (some ⟨g, 0, none⟩) bs.length cap) := cellB hJ3.cell
  have H3 : Hid (_ ∧ _ ∧ _ ∧ _) := ⟨hJ3, hrd3, cB3, e3⟩
  clear d3 s3 hsub hJ3 hrd3 e3 H2 u0 u1 cB3
  go_wp2_with fail
  go_loopw [12, 13] (fun o i wr => ∃ n : Nat, n ≤ bs.length ∧ i = .int .i64 (n : Int) ∧ Hid (BOwn wr w3.heap.size o ((bs.take n).eraseIdx kk) ∧ Kept [] w3 wr)) (fun _ i _ => (bs.length - intOf i).toNat)
  case atStart => exact ⟨0, by omega, rfl, by simpa using BOwn.nil w3 w3.heap.size, Kept.refl _ _⟩
  case round =>
    obtain ⟨n, hnn, rfl, HK⟩ := hrel
    have cBr := HK.out.2.cell H3.out.2.2.1 (by simp)
    by_cases hlt : n < bs.length
    · have i0 : (0 : Int) ≤ (n : Int) := by omega
      have i1 : (n : Int) < (bs.length : Int) := by omega
      by_cases hnk : n = kk
      · subst hnk
        have b2 : ((n : Int) != (n : Int)) = false := by simp
        have HN : Hid (_) := show BOwn wr w3.heap.size u12 ((bs.take (n + 1)).eraseIdx n) ∧ Kept [] w3 wr from ⟨by rw [erase_next bs n n hlt, if_pos rfl]; exact HK.out.1, HK.out.2⟩
        clear HK
        go_wp2
        go_roundw
        case rel => exact ⟨n + 1, by omega, by go_num, HN.out⟩
        case measure => simp [intOf]; omega
      · have b2 : ((n : Int) != (kk : Int)) = true := by simp only [bne_iff_ne, ne_eq]; omega
        obtain ⟨g', eg, v0, v1, v2⟩ := H3.out.2.1 n hlt
        have eg2 : g' = g := by
          have := H3.out.2.2.2
          rw [eg] at this
          simp at this
          omega
        subst eg2
        have v0r := HK.out.2.cell v0 (by simp)
        have v1r := HK.out.2.cell v1 (by simp)
        have v2r := HK.out.2.cell v2 (by simp)
        obtain ⟨⟨c', t', z'⟩, hy'⟩ : ∃ y, bs[n] = y := ⟨_, rfl⟩
        rw [hy'] at v0r v1r v2r
        simp only at v0r v1r v2r
        have hlen : ((bs.take n).eraseIdx kk).length ≤ 100000 := by
          have h8 := List.length_eraseIdx_le (bs.take n) kk
          simp at h8
          omega
        obtain ⟨v', w', hrun, hown, hgrew⟩ := bappend HK.out.1 HK.out.2.size c' t' z' hlen 31
        have HN : Hid (_) := show BOwn w' w3.heap.size v' ((bs.take (n + 1)).eraseIdx kk) ∧ Kept [] w3 w' from
          ⟨by rw [erase_next bs kk n hlt, if_neg hnk, hy']; exact hown, Grew.kept (HK.out.2.alloc _) hgrew (fun i hi => (HK.out.1.block i hi).1)⟩
        clear v0 v1 v2 hown hgrew hlen hy' eg
        go_wp2_with (first
          | (at_builtin; refine wpList_append_run _ rfl _ _ 31 31 rfl _ _ rfl rfl _ _ hrun ?_))
        go_roundw
        case rel => exact ⟨n + 1, by omega, by go_num, HN.out⟩
        case measure => simp [intOf]; omega
    · have i1 : ¬ (n : Int) < (bs.length : Int) := by omega
      obtain rfl : n = bs.length := by omega
      have hfz : wr.frozen? ⟨B, 0, none⟩ = false := block_frozen (by rw [HK.out.2.block B (lt_of_heap H3.out.1.cell) (by simp)]; exact H3.out.1.cell) 0
      have hO : BOwn wr w3.heap.size u12 (bs.take kk ++ bs.drop (kk + 1)) := by
        have h9 := HK.out.1
        rw [List.take_length, List.eraseIdx_eq_take_drop_succ] at h9
        exact h9
      obtain ⟨au, capu, eu, -⟩ := hO.read
      have hput := H3.out.1.put HK.out.2 (by simp) (hO.mono H3.out.1.d.st.kept.size) (fun i hi => Or.inr (hO.block i hi).1)
      obtain ⟨ln, hln⟩ : ∃ ln, (bs.take kk ++ bs.drop (kk + 1)).length = ln := ⟨_, rfl⟩
      rw [hln] at eu
      clear hln
      subst eu
      have HN : Hid (_) := hput
      clear hput hO HK
      go_wp2_with (first
        | (go_at_call 9; refine (num _ _).mono ?_; rintro e w' ⟨rfl, hw'⟩; subst hw'))
      go_ret
      exact ⟨rfl, A3, _, _, _, HN.out, HX.out.2.1.drop, by simp; omega⟩

end Go.Proofs.YtagnkdeeiligcaaDoor
