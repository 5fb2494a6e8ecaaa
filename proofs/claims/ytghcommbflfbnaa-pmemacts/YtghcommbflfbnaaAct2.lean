/-
  act: a Load on both.
-/
import Derived.Test.YtghcommbflfbnaaAct
namespace Go.Proofs.Ytghcommbflfbnaa
open Go.RowKit

set_option maxRecDepth 100000 in
set_option maxHeartbeats 4000000 in
theorem act_load_high {w : World} {p : Pl} {M : Pm} {q : Rp} {R : Rf} (h : Both w p q M R) (kd a v : Int) (hk : 9 ≤ kd) (ha : 0 ≤ a) (hb : (M.seen.length : Int) ≤ a) :
    Calls Try.prog 15 #[.pointer (some ⟨p.b, 0, none⟩), .pointer (some ⟨q.b, 0, none⟩), .agg #[.int .i64 kd, .int .i64 a, .int .i64 v]] w (ActOk w p q M R) := by
  have hK := (Kept.refl [] w).alloc (.cells #[.int .i64 kd, .int .i64 a, .int .i64 v] 36)
  have h0 := h.mem.kept0 hK
  have c0 : w.cell? ⟨q.b, 0, none⟩ = some (.slice (some ⟨q.bs, 0, none⟩) R.seen.length (R.seen.length + q.zs.length)) := by simpa [Rp.cells] using h.ref.cell 0
  rw [h.sim.seen] at c0
  have hlt := lt_of_heap h.ref.main
  have hi := h.mem.ok.hi
  have d1 : decide (kd < 4) = false := by simp; omega
  have d2 : decide (kd < 6) = false := by simp; omega
  have d3 : (kd == 6) = false := by simp; omega
  have d4 : (kd == 7) = false := by simp; omega
  have d5 : (kd == 8) = false := by simp; omega
  have d6 : decide (a < 0) = false := by simp; omega
  have HX : Hid (_ ∧ _) := ⟨h, hK⟩
  clear hK hk
  go_enter Try.func15, Try.ntmps15
  go_wp2_with fail
  refine (load_no h0 a (Or.inr hb)).mono ?_
  rintro e w1 ⟨rfl, rfl⟩
  clear h0 h
  go_wp2
  go_region
  all_goals
    go_wp2_with fail
    refine (u_num _ _).mono ?_
    rintro e w' ⟨rfl, rfl⟩
    go_wp2
    go_ret
    exact ⟨rfl, p, q, ⟨HX.out.1.mem.kept0 HX.out.2.drew, HX.out.1.ref.kept0 HX.out.2.drew, HX.out.1.apart, HX.out.1.sim⟩, BTo.still HX.out.2.drew⟩

set_option maxRecDepth 100000 in
set_option maxHeartbeats 4000000 in
theorem act_load_yes {w : World} {p : Pl} {M : Pm} {q : Rp} {R : Rf} (h : Both w p q M R) (kd a v : Int) (hk : 9 ≤ kd) (ha : 0 ≤ a) (hb : a < (M.seen.length : Int)) :
    Calls Try.prog 15 #[.pointer (some ⟨p.b, 0, none⟩), .pointer (some ⟨q.b, 0, none⟩), .agg #[.int .i64 kd, .int .i64 a, .int .i64 v]] w (ActOk w p q M R) := by
  have hK := (Kept.refl [] w).alloc (.cells #[.int .i64 kd, .int .i64 a, .int .i64 v] 36)
  have h0 := h.mem.kept0 hK
  have c0 : w.cell? ⟨q.b, 0, none⟩ = some (.slice (some ⟨q.bs, 0, none⟩) R.seen.length (R.seen.length + q.zs.length)) := by simpa [Rp.cells] using h.ref.cell 0
  rw [h.sim.seen] at c0
  have hlt := lt_of_heap h.ref.main
  have hi := h.mem.ok.hi
  have d1 : decide (kd < 4) = false := by simp; omega
  have d2 : decide (kd < 6) = false := by simp; omega
  have d3 : (kd == 6) = false := by simp; omega
  have d4 : (kd == 7) = false := by simp; omega
  have d5 : (kd == 8) = false := by simp; omega
  have hlt2 := lt_of_heap h.ref.seen
  have cw : w.cell? ⟨q.bs, a.toNat, none⟩ = some (.int .u64 (wordAt M.seen a.toNat)) := by
    rw [← h.sim.seen]
    exact row_word h.ref.seen (by rw [h.sim.seen]; omega)
  have d6 : decide (a < 0) = false := by simp; omega
  have HX : Hid (_ ∧ _) := ⟨h, hK⟩
  clear hK hk
  go_enter Try.func15, Try.ntmps15
  go_wp2_with fail
  refine (load_yes h0 a ha hb).mono ?_
  rintro e w1 ⟨rfl, rfl⟩
  clear h0 h
  go_wp2
  go_region
  go_wp2_with fail
  go_region_held3 (fun w' => w'.cell? ⟨w.heap.size, 1, none⟩ = some (.int .i64 a) ∧ w'.cell? ⟨q.b, 0, none⟩ = some (.slice (some ⟨q.bs, 0, none⟩) M.seen.length (M.seen.length + q.zs.length)) ∧ w'.cell? ⟨q.bs, a.toNat, none⟩ = some (.int .u64 (wordAt M.seen a.toNat))) (first | go_keep)
    (first
      | (go_at_call 11; refine (u_num _ _).mono ?_; rintro e w' ⟨rfl, rfl⟩))
  go_wp2
  go_ret
  exact ⟨rfl, p, q, ⟨HX.out.1.mem.kept0 HX.out.2.drew.drew, HX.out.1.ref.kept0 HX.out.2.drew.drew, HX.out.1.apart, HX.out.1.sim⟩, BTo.still HX.out.2.drew.drew⟩

end Go.Proofs.Ytghcommbflfbnaa
