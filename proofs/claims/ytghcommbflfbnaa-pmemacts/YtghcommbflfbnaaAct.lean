/-
  act: one call on both.
-/
import Derived.Test.YtghcommbflfbnaaBoth
import Derived.Test.YtghcommbflfbnaaUser
import Derived.Test.YtghcommbflfbnaaHold
namespace Go.Proofs.Ytghcommbflfbnaa
open Go.RowKit

def ActOk (w : World) (p : Pl) (q : Rp) (M' : Pm) (R' : Rf) (e : Ending) (w' : World) : Prop := e = .returned (.bool true) ∧ ∃ p' q', Both w' p' q' M' R' ∧ BTo w p q w' p' q'

/-- The box that x lies in, the reference and what parts them, behind the memory's call. -/
theorem act_mid {w w1 : World} {p p1 : Pl} {M : Pm} {q : Rp} {R : Rf} (h : Both w p q M R) (kd a v : Int)
    (ht : To (w.alloc (.cells #[.int .i64 kd, .int .i64 a, .int .i64 v] 36)) p w1 p1) :
    RefIs w1 q R ∧ (∀ k ∈ p1.blocks, k ∉ q.blocks) ∧ BTo w p q w1 p1 q ∧ w1.heap[w.heap.size]? = some (.cells #[.int .i64 kd, .int .i64 a, .int .i64 v] 36 (0, 0)) := by
  have hK := (Kept.refl [] w).alloc (.cells #[.int .i64 kd, .int .i64 a, .int .i64 v] 36)
  obtain ⟨h1, h2, h3⟩ := step_mem (h.ref.kept0 hK) h.apart ht
  refine ⟨h1, h2, (BTo.still hK).trans h3, ?_⟩
  rw [ht.kept.block _ (by simp) (fun hm => by have := h.mem.blocks_lt _ hm; omega)]
  exact Go.heap_alloc_new _ _

theorem act_end {w w1 w2 : World} {p p1 : Pl} {M' : Pm} {q q2 : Rp} {R' : Rf} (hm1 : MemIs w1 p1 M') (ha : ∀ k ∈ p1.blocks, k ∉ q.blocks) (hb : BTo w p q w1 p1 q) (ht : RTo w1 q w2 q2) (hr2 : RefIs w2 q2 R') (hs : Sim 0 M' R') :
    ActOk w p q M' R' (.returned (.bool true)) w2 := by
  obtain ⟨h1, h2, h3⟩ := step_ref hm1 ha ht
  exact ⟨rfl, p1, q2, ⟨h1, hr2, h2, hs⟩, hb.trans h3⟩

theorem box_cell {w : World} {b : Nat} {x y z : Value} (h : w.heap[b]? = some (.cells #[x, y, z] 36 (0, 0))) : w.cell? ⟨b, 0, none⟩ = some x ∧ w.cell? ⟨b, 1, none⟩ = some y ∧ w.cell? ⟨b, 2, none⟩ = some z := by
  refine ⟨?_, ?_, ?_⟩ <;> simp [World.cell?, h]

theorem RTo.drewL {w w' : World} {p p' : Rp} (h : RTo w.drew p w' p') : RTo w p w' p' := (RTo.still (Kept.refl [] w).drew).trans h

theorem act_mid2 {w w1 w2 : World} {p : Pl} {M : Pm} {q q2 : Rp} {R : Rf} {x y z : Value} (h : Both w p q M R) (hb : w1.heap[w.heap.size]? = some (.cells #[x, y, z] 36 (0, 0))) (ht : RTo w1 q w2 q2) :
    w2.heap[w.heap.size]? = some (.cells #[x, y, z] 36 (0, 0)) := by
  rw [ht.kept.block _ (lt_of_heap hb) (fun hm => by have := h.ref.blocks_lt _ hm; omega)]
  exact hb

set_option maxRecDepth 100000 in
set_option maxHeartbeats 4000000 in
theorem act_store {w : World} {p : Pl} {M M' : Pm} {q : Rp} {R R' : Rf} (h : Both w p q M R) (hs : Sim 0 M' R') (kd a v c : Int) (hk : kd < 4)
    (H1 : ∀ w, MemIs w p M → Calls Try.prog 22 #[.pointer (some ⟨p.b, 0, none⟩), .int .i64 a, .int .u64 (IntKind.u64.wrap v)] w fun e w' => e = .returned (.int .i64 c) ∧ ∃ p', To w p w' p' ∧ MemIs w' p' M')
    (H2 : ∀ w, RefIs w q R → Calls Try.prog 29 #[.pointer (some ⟨q.b, 0, none⟩), .int .i64 a, .int .u64 (IntKind.u64.wrap v)] w fun e w' => e = .returned (.int .i64 c) ∧ ∃ q', RTo w q w' q' ∧ RefIs w' q' R') :
    Calls Try.prog 15 #[.pointer (some ⟨p.b, 0, none⟩), .pointer (some ⟨q.b, 0, none⟩), .agg #[.int .i64 kd, .int .i64 a, .int .i64 v]] w (ActOk w p q M' R') := by
  have h0 := h.mem.kept0 ((Kept.refl [] w).alloc (.cells #[.int .i64 kd, .int .i64 a, .int .i64 v] 36))
  have hc : (c == c) = true := by simp
  go_enter Try.func15, Try.ntmps15
  go_wp2_with fail
  refine (H1 _ h0).mono ?_
  rintro e w1 ⟨rfl, p1, hto1, hm1⟩
  obtain ⟨hr1, ha1, hb1, hx1⟩ := act_mid h kd a v hto1
  obtain ⟨x0, x1, x2⟩ := box_cell hx1
  have hr1d := hr1.kept0 (Kept.refl [] w1).drew
  have HX : Hid (_ ∧ _ ∧ _ ∧ _) := ⟨hm1, ha1, hb1, hx1⟩
  clear hto1 hm1 ha1 hb1 hx1 h0
  go_wp2_with fail
  go_region_held3 (fun w' => w'.cell? ⟨w.heap.size, 0, none⟩ = some (.int .i64 kd) ∧ w'.cell? ⟨w.heap.size, 1, none⟩ = some (.int .i64 a) ∧ w'.cell? ⟨w.heap.size, 2, none⟩ = some (.int .i64 v)) (first | (exact ⟨by assumption, by assumption, by assumption⟩) | go_keep)
    (first
      | (go_at_call 11; refine (u_num _ _).mono ?_; rintro e w' ⟨rfl, rfl⟩)
      | (go_at_call 29; refine (H2 _ (by first | exact hr1d | exact hr1)).mono ?_; rintro e w2 ⟨rfl, q2, hto2, hr2⟩; have hx2 := act_mid2 h HX.out.2.2.2 (RTo.drewL hto2); obtain ⟨y0, y1, y2⟩ := box_cell hx2; have HY : Hid (_ ∧ _) := ⟨RTo.drewL hto2, hr2⟩; clear hto2 hr2 hx2))
  go_wp2
  go_ret
  exact act_end HX.out.1 HX.out.2.1 HX.out.2.2.1 HY.out.1 HY.out.2 hs

set_option maxRecDepth 100000 in
set_option maxHeartbeats 4000000 in
theorem act_flush {w : World} {p : Pl} {M M' : Pm} {q : Rp} {R R' : Rf} (h : Both w p q M R) (hs : Sim 0 M' R') (kd a v c : Int) (hk : 4 ≤ kd) (hk2 : kd < 6)
    (H1 : ∀ w, MemIs w p M → Calls Try.prog 23 #[.pointer (some ⟨p.b, 0, none⟩), .int .i64 a] w fun e w' => e = .returned (.int .i64 c) ∧ ∃ p', To w p w' p' ∧ MemIs w' p' M')
    (H2 : ∀ w, RefIs w q R → Calls Try.prog 30 #[.pointer (some ⟨q.b, 0, none⟩), .int .i64 a] w fun e w' => e = .returned (.int .i64 c) ∧ ∃ q', RTo w q w' q' ∧ RefIs w' q' R') :
    Calls Try.prog 15 #[.pointer (some ⟨p.b, 0, none⟩), .pointer (some ⟨q.b, 0, none⟩), .agg #[.int .i64 kd, .int .i64 a, .int .i64 v]] w (ActOk w p q M' R') := by
  have h0 := h.mem.kept0 ((Kept.refl [] w).alloc (.cells #[.int .i64 kd, .int .i64 a, .int .i64 v] 36))
  have hc : (c == c) = true := by simp
  go_enter Try.func15, Try.ntmps15
  go_wp2_with fail
  refine (H1 _ h0).mono ?_
  rintro e w1 ⟨rfl, p1, hto1, hm1⟩
  obtain ⟨hr1, ha1, hb1, hx1⟩ := act_mid h kd a v hto1
  obtain ⟨x0, x1, x2⟩ := box_cell hx1
  have hr1d := hr1.kept0 (Kept.refl [] w1).drew
  have HX : Hid (_ ∧ _ ∧ _ ∧ _) := ⟨hm1, ha1, hb1, hx1⟩
  clear hto1 hm1 ha1 hb1 hx1 h0
  go_wp2_with fail
  go_region_held3 (fun w' => w'.cell? ⟨w.heap.size, 0, none⟩ = some (.int .i64 kd) ∧ w'.cell? ⟨w.heap.size, 1, none⟩ = some (.int .i64 a) ∧ w'.cell? ⟨w.heap.size, 2, none⟩ = some (.int .i64 v)) (first | (exact ⟨by assumption, by assumption, by assumption⟩) | go_keep)
    (first
      | (go_at_call 11; refine (u_num _ _).mono ?_; rintro e w' ⟨rfl, rfl⟩)
      | (go_at_call 30; refine (H2 _ (by first | exact hr1d | exact hr1)).mono ?_; rintro e w2 ⟨rfl, q2, hto2, hr2⟩; have hx2 := act_mid2 h HX.out.2.2.2 (RTo.drewL hto2); obtain ⟨y0, y1, y2⟩ := box_cell hx2; have HY : Hid (_ ∧ _) := ⟨RTo.drewL hto2, hr2⟩; clear hto2 hr2 hx2))
  go_wp2
  go_ret
  exact act_end HX.out.1 HX.out.2.1 HX.out.2.2.1 HY.out.1 HY.out.2 hs

set_option maxRecDepth 100000 in
set_option maxHeartbeats 4000000 in
theorem act_fence {w : World} {p : Pl} {M M' : Pm} {q : Rp} {R R' : Rf} (h : Both w p q M R) (hs : Sim 0 M' R') (a v c : Int) 
    (H1 : ∀ w, MemIs w p M → Calls Try.prog 24 #[.pointer (some ⟨p.b, 0, none⟩)] w fun e w' => e = .returned (.int .i64 c) ∧ ∃ p', To w p w' p' ∧ MemIs w' p' M')
    (H2 : ∀ w, RefIs w q R → Calls Try.prog 31 #[.pointer (some ⟨q.b, 0, none⟩)] w fun e w' => e = .returned (.int .i64 c) ∧ ∃ q', RTo w q w' q' ∧ RefIs w' q' R') :
    Calls Try.prog 15 #[.pointer (some ⟨p.b, 0, none⟩), .pointer (some ⟨q.b, 0, none⟩), .agg #[.int .i64 6, .int .i64 a, .int .i64 v]] w (ActOk w p q M' R') := by
  have h0 := h.mem.kept0 ((Kept.refl [] w).alloc (.cells #[.int .i64 6, .int .i64 a, .int .i64 v] 36))
  have hc : (c == c) = true := by simp
  go_enter Try.func15, Try.ntmps15
  go_wp2_with fail
  refine (H1 _ h0).mono ?_
  rintro e w1 ⟨rfl, p1, hto1, hm1⟩
  obtain ⟨hr1, ha1, hb1, hx1⟩ := act_mid h 6 a v hto1
  obtain ⟨x0, x1, x2⟩ := box_cell hx1
  have HX : Hid (_ ∧ _ ∧ _ ∧ _) := ⟨hm1, ha1, hb1, hx1⟩
  clear hto1 hm1 ha1 hb1 hx1 h0
  go_wp2_with fail
  refine (u_num _ _).mono ?_
  rintro e w' ⟨rfl, rfl⟩
  go_wp2_with fail
  refine (H2 _ hr1).mono ?_
  rintro e w2 ⟨rfl, q2, hto2, hr2⟩
  have HY : Hid (_ ∧ _) := ⟨hto2, hr2⟩
  clear hto2 hr2
  go_wp2
  go_ret
  exact act_end HX.out.1 HX.out.2.1 HX.out.2.2.1 HY.out.1 HY.out.2 hs

set_option maxRecDepth 100000 in
set_option maxHeartbeats 4000000 in
theorem act_fuse {w : World} {p : Pl} {M M' : Pm} {q : Rp} {R R' : Rf} (h : Both w p q M R) (hs : Sim 0 M' R') (a v c : Int) 
    (H1 : ∀ w, MemIs w p M → Calls Try.prog 25 #[.pointer (some ⟨p.b, 0, none⟩), .int .i64 v] w fun e w' => e = .returned (.int .i64 c) ∧ ∃ p', To w p w' p' ∧ MemIs w' p' M')
    (H2 : ∀ w, RefIs w q R → Calls Try.prog 32 #[.pointer (some ⟨q.b, 0, none⟩), .int .i64 v] w fun e w' => e = .returned (.int .i64 c) ∧ ∃ q', RTo w q w' q' ∧ RefIs w' q' R') :
    Calls Try.prog 15 #[.pointer (some ⟨p.b, 0, none⟩), .pointer (some ⟨q.b, 0, none⟩), .agg #[.int .i64 7, .int .i64 a, .int .i64 v]] w (ActOk w p q M' R') := by
  have h0 := h.mem.kept0 ((Kept.refl [] w).alloc (.cells #[.int .i64 7, .int .i64 a, .int .i64 v] 36))
  have hc : (c == c) = true := by simp
  go_enter Try.func15, Try.ntmps15
  go_wp2_with fail
  refine (H1 _ h0).mono ?_
  rintro e w1 ⟨rfl, p1, hto1, hm1⟩
  obtain ⟨hr1, ha1, hb1, hx1⟩ := act_mid h 7 a v hto1
  obtain ⟨x0, x1, x2⟩ := box_cell hx1
  have hr1d := hr1.kept0 (Kept.refl [] w1).drew
  have HX : Hid (_ ∧ _ ∧ _ ∧ _) := ⟨hm1, ha1, hb1, hx1⟩
  clear hto1 hm1 ha1 hb1 hx1 h0
  go_wp2_with fail
  go_region_held3 (fun w' => w'.cell? ⟨w.heap.size, 0, none⟩ = some (.int .i64 7) ∧ w'.cell? ⟨w.heap.size, 1, none⟩ = some (.int .i64 a) ∧ w'.cell? ⟨w.heap.size, 2, none⟩ = some (.int .i64 v)) (first | (exact ⟨by assumption, by assumption, by assumption⟩) | go_keep)
    (first
      | (go_at_call 11; refine (u_num _ _).mono ?_; rintro e w' ⟨rfl, rfl⟩)
      | (go_at_call 32; refine (H2 _ (by first | exact hr1d | exact hr1)).mono ?_; rintro e w2 ⟨rfl, q2, hto2, hr2⟩; have hx2 := act_mid2 h HX.out.2.2.2 (RTo.drewL hto2); obtain ⟨y0, y1, y2⟩ := box_cell hx2; have HY : Hid (_ ∧ _) := ⟨RTo.drewL hto2, hr2⟩; clear hto2 hr2 hx2))
  go_wp2
  go_ret
  exact act_end HX.out.1 HX.out.2.1 HX.out.2.2.1 HY.out.1 HY.out.2 hs

set_option maxRecDepth 100000 in
set_option maxHeartbeats 4000000 in
theorem act_crash {w : World} {p : Pl} {M M' : Pm} {q : Rp} {R R' : Rf} (h : Both w p q M R) (hs : Sim 0 M' R') (a v c : Int) 
    (H1 : ∀ w, MemIs w p M → Calls Try.prog 19 #[.pointer (some ⟨p.b, 0, none⟩), .int .i64 v] w fun e w' => e = .returned (.int .i64 c) ∧ ∃ p', To w p w' p' ∧ MemIs w' p' M')
    (H2 : ∀ w, RefIs w q R → Calls Try.prog 20 #[.pointer (some ⟨q.b, 0, none⟩), .int .i64 v] w fun e w' => e = .returned (.int .i64 c) ∧ ∃ q', RTo w q w' q' ∧ RefIs w' q' R') :
    Calls Try.prog 15 #[.pointer (some ⟨p.b, 0, none⟩), .pointer (some ⟨q.b, 0, none⟩), .agg #[.int .i64 8, .int .i64 a, .int .i64 v]] w (ActOk w p q M' R') := by
  have h0 := h.mem.kept0 ((Kept.refl [] w).alloc (.cells #[.int .i64 8, .int .i64 a, .int .i64 v] 36))
  have hc : (c == c) = true := by simp
  go_enter Try.func15, Try.ntmps15
  go_wp2_with fail
  refine (H1 _ h0).mono ?_
  rintro e w1 ⟨rfl, p1, hto1, hm1⟩
  obtain ⟨hr1, ha1, hb1, hx1⟩ := act_mid h 8 a v hto1
  obtain ⟨x0, x1, x2⟩ := box_cell hx1
  have hr1d := hr1.kept0 (Kept.refl [] w1).drew
  have HX : Hid (_ ∧ _ ∧ _ ∧ _) := ⟨hm1, ha1, hb1, hx1⟩
  clear hto1 hm1 ha1 hb1 hx1 h0
  go_wp2_with fail
  go_region_held3 (fun w' => w'.cell? ⟨w.heap.size, 0, none⟩ = some (.int .i64 8) ∧ w'.cell? ⟨w.heap.size, 1, none⟩ = some (.int .i64 a) ∧ w'.cell? ⟨w.heap.size, 2, none⟩ = some (.int .i64 v)) (first | (exact ⟨by assumption, by assumption, by assumption⟩) | go_keep)
    (first
      | (go_at_call 11; refine (u_num _ _).mono ?_; rintro e w' ⟨rfl, rfl⟩)
      | (go_at_call 20; refine (H2 _ (by first | exact hr1d | exact hr1)).mono ?_; rintro e w2 ⟨rfl, q2, hto2, hr2⟩; have hx2 := act_mid2 h HX.out.2.2.2 (RTo.drewL hto2); obtain ⟨y0, y1, y2⟩ := box_cell hx2; have HY : Hid (_ ∧ _) := ⟨RTo.drewL hto2, hr2⟩; clear hto2 hr2 hx2))
  go_wp2
  go_ret
  exact act_end HX.out.1 HX.out.2.1 HX.out.2.2.1 HY.out.1 HY.out.2 hs

set_option maxRecDepth 100000 in
set_option maxHeartbeats 4000000 in
theorem act_load_neg {w : World} {p : Pl} {M : Pm} {q : Rp} {R : Rf} (h : Both w p q M R) (kd a v : Int) (hk : 9 ≤ kd) (ha : a < 0) :
    Calls Try.prog 15 #[.pointer (some ⟨p.b, 0, none⟩), .pointer (some ⟨q.b, 0, none⟩), .agg #[.int .i64 kd, .int .i64 a, .int .i64 v]] w (ActOk w p q M R) := by
  have hK := (Kept.refl [] w).alloc (.cells #[.int .i64 kd, .int .i64 a, .int .i64 v] 36)
  have h0 := h.mem.kept0 hK
  have c0 : w.cell? ⟨q.b, 0, none⟩ = some (.slice (some ⟨q.bs, 0, none⟩) R.seen.length (R.seen.length + q.zs.length)) := by simpa [Rp.cells] using h.ref.cell 0
  rw [h.sim.seen] at c0
  have hlt := lt_of_heap h.ref.main
  have hi := h.mem.ok.hi
  have d1 : decide (kd < 4) = false := by simp; omega
  have d2 : decide (kd < 6) = false := by simp; omega
  have d3 : (kd == 6) = false := by simp; omega
  have d4 : (kd == 7) = false := by simp; omega
  have d5 : (kd == 8) = false := by simp; omega
  have HX : Hid (_ ∧ _) := ⟨h, hK⟩
  clear hK hk
  go_enter Try.func15, Try.ntmps15
  go_wp2_with fail
  refine (load_no h0 a (Or.inl ha)).mono ?_
  rintro e w1 ⟨rfl, rfl⟩
  clear h0 h
  go_wp2
  go_region
  all_goals
    go_wp2_with fail
    refine (u_num _ _).mono ?_
    rintro e w' ⟨rfl, rfl⟩
    go_wp2
    go_ret
    exact ⟨rfl, p, q, ⟨HX.out.1.mem.kept0 HX.out.2.drew, HX.out.1.ref.kept0 HX.out.2.drew, HX.out.1.apart, HX.out.1.sim⟩, BTo.still HX.out.2.drew⟩

end Go.Proofs.Ytghcommbflfbnaa
