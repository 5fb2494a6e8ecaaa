/-
  One allocator, made since w0: a contract a call; awake.
-/
import Derived.Test.YtagnkdeeiligcaaDoorAlnew
namespace Go.Proofs.YtagnkdeeiligcaaDoor
open Go.RowKit

theorem heap_room {a n : Nat} (h : 64 ≤ n) : heap a n + room n ≤ a + n ∧ a < heap a n := by
  have := gro_lt h
  unfold heap room; omega

theorem st_get {w0 w : World} {b x k f s : Nat} {A : Ar} {P : Nat → List Pc} {q : Nat} (h : St w0 w b x k f s A P q) {c : Nat} (hc : c < k) (q' : Nat) (hq : q' + 100 ≤ q) (z : Nat) (z0 : 1 ≤ z) (z1 : z ≤ 32) (hz : loads (P c) + z + 2 ≤ s / 4) :
    Calls Tryd.prog 11 #[.pointer (some ⟨x, 0, none⟩), .int .i64 (c : Int), .int .i64 (z : Int)] w fun e w' => ∃ pos A', e = .returned (.tuple #[.int .i64 ((heap (f + c * s) s + pos : Nat) : Int), .int .i64 0]) ∧
      St w0 w' b x k f s A' (fun d => if d = c then P c ++ [(pos, z)] else P d) q' ∧ pos + z ≤ room s ∧ ∀ y, heap (f + c * s) s + pos ≤ y → y < heap (f + c * s) s + pos + z → wordAt A'.words y = 0 := by
  obtain ⟨p, h1, h2, h3⟩ := h.ex
  refine (Get_ok (h.share h1 h3 hc) h.al (by omega) (h.inv c hc) z z0 z1 hz).mono ?_
  rintro e w' ⟨pos, p', A', rfl, hr, hi, hp, hz0, hj⟩
  have hh := heap_room (a := f + c * s) h.slo
  exact ⟨pos, A', rfl, h.run h1 h2 hc hr _ hi (fun y hy => hj y (by omega) (by omega)) q' hq, hp, hz0⟩

theorem st_full {w0 w : World} {b x k f s : Nat} {A : Ar} {P : Nat → List Pc} {q : Nat} (h : St w0 w b x k f s A P q) {c : Nat} (hc : c < k) (q' : Nat) (hq : q' + 100 ≤ q) (z : Nat) (z0 : 1 ≤ z) (z1 : z ≤ 32) (hz : s / 4 < loads (P c) + z + 2) :
    Calls Tryd.prog 11 #[.pointer (some ⟨x, 0, none⟩), .int .i64 (c : Int), .int .i64 (z : Int)] w fun e w' => e = .returned (.tuple #[.int .i64 0, .int .i64 401]) ∧ ∃ A', St w0 w' b x k f s A' P q' := by
  obtain ⟨p, h1, h2, h3⟩ := h.ex
  refine (Get_full (h.share h1 h3 hc) h.al (by omega) (h.inv c hc) z z0 z1 hz).mono ?_
  rintro e w' ⟨rfl, p', A', hr, hw⟩
  refine ⟨rfl, A', (h.run h1 h2 hc hr (P c) (by rw [hw]; exact h.inv c hc) (fun y _ => by rw [hw]) q' hq).pieces fun d _ => ?_⟩
  by_cases e : d = c
  · subst e; simp
  · simp [e]

theorem st_size {w0 w : World} {b x k f s : Nat} {A : Ar} {P : Nat → List Pc} {q : Nat} (h : St w0 w b x k f s A P q) {c : Nat} (hc : c < k) (z : Int) (hz : z < 1 ∨ 32 < z) :
    Calls Tryd.prog 11 #[.pointer (some ⟨x, 0, none⟩), .int .i64 (c : Int), .int .i64 z] w fun e w' => e = .returned (.tuple #[.int .i64 0, .int .i64 403]) ∧ St w0 w' b x k f s A P q := by
  obtain ⟨p, h1, h2, h3⟩ := h.ex
  refine (Get_size (h.share h1 h3 hc) h.al z hz).mono ?_
  rintro e w' ⟨rfl, hk⟩
  exact ⟨rfl, h.still hk⟩

theorem st_core {w0 w : World} {b x k f s : Nat} {A : Ar} {P : Nat → List Pc} {q : Nat} (h : St w0 w b x k f s A P q) (c z : Int) (hc : c < 0 ∨ (k : Int) ≤ c) :
    Calls Tryd.prog 11 #[.pointer (some ⟨x, 0, none⟩), .int .i64 c, .int .i64 z] w fun e w' => e = .returned (.tuple #[.int .i64 0, .int .i64 403]) ∧ St w0 w' b x k f s A P q := by
  obtain ⟨p, h1, h2, h3⟩ := h.ex
  refine (Get_core h3 (by rw [h1]; exact h.al) c z (by rw [h.cores]; exact hc)).mono ?_
  rintro e w' ⟨rfl, hk⟩
  exact ⟨rfl, h.still hk⟩

theorem st_nocore {w0 w : World} {b x k f s : Nat} {A : Ar} {P : Nat → List Pc} {q : Nat} (h : St w0 w b x k f s A P q) (c t : Int) (hc : c < 0 ∨ (k : Int) ≤ c) :
    Calls Tryd.prog 16 #[.pointer (some ⟨x, 0, none⟩), .int .i64 c, .int .i64 t] w fun e w' => e = .returned (.int .i64 402) ∧ St w0 w' b x k f s A P q := by
  obtain ⟨p, h1, h2, h3⟩ := h.ex
  refine (Free_core h3 (by rw [h1]; exact h.al) c t (by rw [h.cores]; exact hc)).mono ?_
  rintro e w' ⟨rfl, hk⟩
  exact ⟨rfl, h.still hk⟩

theorem st_out {w0 w : World} {b x k f s : Nat} {A : Ar} {P : Nat → List Pc} {q : Nat} (h : St w0 w b x k f s A P q) {c : Nat} (hc : c < k) (t : Int) (ht : t < (heap (f + c * s) s : Int) ∨ ((heap (f + c * s) s + room s : Nat) : Int) ≤ t) :
    Calls Tryd.prog 16 #[.pointer (some ⟨x, 0, none⟩), .int .i64 (c : Int), .int .i64 t] w fun e w' => e = .returned (.int .i64 402) ∧ St w0 w' b x k f s A P q := by
  obtain ⟨p, h1, h2, h3⟩ := h.ex
  have hI := h.share h1 h3 hc
  refine (Free_by (R := fun w w' => Kept [] w w') hI h.al t 402 (fun w1 w2 k1 k2 => k1.trans k2 (by simp)) (fun w1 k1 => free_out (hI.kept k1) t ht)).mono ?_
  rintro e w' ⟨rfl, hk⟩
  exact ⟨rfl, h.still hk⟩

theorem st_none {w0 w : World} {b x k f s : Nat} {A : Ar} {P : Nat → List Pc} {q : Nat} (h : St w0 w b x k f s A P q) {c : Nat} (hc : c < k) (q' : Nat) (hq : q' + 100 ≤ q) (t : Int) (hno : ∀ pc ∈ P c, t ≠ ((heap (f + c * s) s + pc.1 : Nat) : Int)) :
    Calls Tryd.prog 16 #[.pointer (some ⟨x, 0, none⟩), .int .i64 (c : Int), .int .i64 t] w fun e w' => e = .returned (.int .i64 402) ∧ ∃ A', St w0 w' b x k f s A' P q' := by
  by_cases ht : t < (heap (f + c * s) s : Int) ∨ ((heap (f + c * s) s + room s : Nat) : Int) ≤ t
  · refine (st_out h hc t ht).mono ?_
    rintro e w' ⟨rfl, hs⟩
    exact ⟨rfl, A, hs.less (by omega)⟩
  · obtain ⟨p, h1, h2, h3⟩ := h.ex
    have hI := h.share h1 h3 hc
    obtain ⟨y, rfl⟩ : ∃ y : Nat, t = ((heap (f + c * s) s + y : Nat) : Int) := ⟨(t - (heap (f + c * s) s : Int)).toNat, by omega⟩
    have hb : beg (P c) y = false := by
      rw [beg, List.any_eq_false]
      intro pc hp
      simp only [decide_eq_true_eq]
      intro e
      exact hno pc hp (by rw [e])
    refine (Free_by (R := fun w w' => ∃ p' A', Run c (f + c * s) (f + c * s + s) 100 w p A w' p' A' ∧ A'.words = A.words) hI h.al _ 402 (fun w1 w2 k1 ⟨p', A', r1, r2⟩ => ⟨p', A', Run.pre k1 r1, r2⟩) (fun w1 k1 => free_none (hI.kept k1) (by omega) (h.inv c hc) y (by omega) hb)).mono ?_
    rintro e w' ⟨rfl, p', A', hr, hw⟩
    refine ⟨rfl, A', (h.run h1 h2 hc hr (P c) (by rw [hw]; exact h.inv c hc) (fun y _ => by rw [hw]) q' hq).pieces fun d _ => ?_⟩
    by_cases e : d = c
    · subst e; simp
    · simp [e]

theorem Tab.pos {w : World} (h : Tab w) : 0 < w.heap.size := block_lt_of_cell (h 0 (by omega))

theorem st_free {w0 w : World} {b x k f s : Nat} {A : Ar} {P : Nat → List Pc} {q : Nat} (h : St w0 w b x k f s A P q) (hT : Tab w0) {c : Nat} (hc : c < k) (q' : Nat) (hq : q' + 100 ≤ q) {l1 l2 : List Pc} {pc : Pc} (hP : P c = l1 ++ pc :: l2) :
    Calls Tryd.prog 16 #[.pointer (some ⟨x, 0, none⟩), .int .i64 (c : Int), .int .i64 ((heap (f + c * s) s + pc.1 : Nat) : Int)] w fun e w' => e = .returned (.int .i64 0) ∧ ∃ A', St w0 w' b x k f s A' (fun d => if d = c then l1 ++ l2 else P d) q' := by
  obtain ⟨p, h1, h2, h3⟩ := h.ex
  have hI := h.share h1 h3 hc
  have hTw : Tab w := hT.kept h.kept (by simp)
  have h0 : 0 ∉ p.blocks := fun hm => by have := (h2 0 hm).1; have := hT.pos; omega
  have hinv := h.inv c hc
  rw [hP] at hinv
  refine (Free_by (R := fun w w' => ∃ p' A', Run c (f + c * s) (f + c * s + s) 100 w p A w' p' A' ∧ Inv s (f + c * s) (wordAt A'.words) (l1 ++ l2) ∧ ∀ y, (y < f + c * s ∨ heap (f + c * s) s ≤ y) → wordAt A'.words y = wordAt A.words y) hI h.al _ 0 (fun w1 w2 k1 ⟨p', A', r1, r2⟩ => ⟨p', A', Run.pre k1 r1, r2⟩) (fun w1 k1 => free_ok (hI.kept k1) (by omega) (hTw.kept k1 (by simp)) h0 hinv)).mono ?_
  rintro e w' ⟨rfl, p', A', hr, hi, hj⟩
  have hh := heap_room (a := f + c * s) h.slo
  exact ⟨rfl, A', h.run h1 h2 hc hr _ hi (fun y hy => hj y (by omega)) q' hq⟩

theorem st_left {w0 w : World} {b x k f s : Nat} {A : Ar} {P : Nat → List Pc} {q : Nat} (h : St w0 w b x k f s A P q) {c : Nat} (hc : c < k) (q' : Nat) (hq : q' + 100 ≤ q) :
    Calls Tryd.prog 21 #[.pointer (some ⟨x, 0, none⟩), .int .i64 (c : Int)] w fun e w' => e = .returned (.int .i64 ((leftOf (s / 4 - loads (P c)) : Nat) : Int)) ∧ ∃ A', St w0 w' b x k f s A' P q' := by
  obtain ⟨p, h1, h2, h3⟩ := h.ex
  refine (Left_any (h.share h1 h3 hc) h.al (by omega) _ (h.inv c hc).most (h.inv c hc).load).mono ?_
  rintro e w' ⟨rfl, p', A', hr, hw⟩
  refine ⟨rfl, A', (h.run h1 h2 hc hr (P c) (by rw [hw]; exact h.inv c hc) (fun y _ => by rw [hw]) q' hq).pieces fun d _ => ?_⟩
  by_cases e : d = c
  · subst e; simp
  · simp [e]

set_option maxRecDepth 100000 in
set_option maxHeartbeats 4000000 in
theorem awake_any {w : World} (hT : Tab w) : Calls Tryd.prog 14 #[] w fun e w' => e = .returned (.bool true) ∧ Kept [] w w' := by
  have HT : Hid (_) := hT
  clear hT
  go_enter Tryd.func14, Tryd.ntmps14
  go_wp2_with fail
  refine (u_new w 300 2 (by omega) (by omega) (by omega) (by omega)).mono ?_
  rintro e w1 ⟨b, rfl, hm⟩
  have HM : Hid (Has w w1 b (fresh 300 2)) := hm
  clear hm
  go_wp2_with fail
  refine (new_alloc (N := 300) (k := 2) (f := 10) (W := 256) HM.out (by omega) (by omega) (by omega) (by omega) (by omega) (by omega)).mono ?_
  rintro e w2 ⟨x, A2, rfl, h2⟩
  have H2 : Hid (St w w2 b x 2 10 128 A2 (fun _ => []) 900000) := h2
  clear h2 HM
  go_wp2_with fail
  refine (st_get H2.out (c := 0) (by omega) 899000 (by omega) 5 (by omega) (by omega) (by simp [loads])).mono ?_
  rintro e w3 ⟨pos, A3, rfl, h3, hp, -⟩
  have hr : room 128 = 119 := by decide
  have hh : heap (10 + 0 * 128) 128 = 19 := by decide
  rw [hh]
  rw [hr] at hp
  have H3 : Hid (_) := h3
  clear h3 H2 hr hh
  go_wp2_with fail
  refine (st_free H3.out HT.out (c := 0) (by omega) 898000 (by omega) (l1 := []) (l2 := []) (pc := (pos, 5)) (by simp)).mono ?_
  rintro e w4 ⟨rfl, A4, h4⟩
  have H4 : Hid (_) := h4
  clear h4
  go_wp2_with fail
  refine (st_none H4.out (c := 0) (by omega) 897000 (by omega) ((19 : Int) + (pos : Int)) (by simp)).mono ?_
  rintro e w5 ⟨rfl, A5, h5⟩
  have H5 : Hid (_) := h5
  clear h5
  go_wp2_with fail
  refine (st_core H5.out 2 1 (by omega)).mono ?_
  rintro e w6 ⟨rfl, h6⟩
  have hhas : Has w w6 b A5 := by
    obtain ⟨p, e1, e2, e3⟩ := h6.ex
    exact ⟨h6.kept, p, e1, fun i hi => (e2 i hi).1, e3⟩
  have H6 : Hid (_ ∧ _) := ⟨h6, hhas⟩
  clear h6 hhas
  go_wp2_with fail
  refine (new_small H6.out.2 H6.out.1.cores (by omega) 0 100 (by omega)).mono ?_
  rintro e w7 ⟨rfl, hw7⟩
  subst hw7
  have j1 : (10 : Int) ≤ 19 + (pos : Int) := by omega
  have j2 : 19 + (pos : Int) + 5 ≤ 266 := by omega
  go_wp2_with (first
    | (go_at_call 9; refine (num _ _).mono ?_; rintro e w' ⟨rfl, hw'⟩; subst hw'))
  go_ret
  exact ⟨rfl, H6.out.1.kept⟩

end Go.Proofs.YtagnkdeeiligcaaDoor
