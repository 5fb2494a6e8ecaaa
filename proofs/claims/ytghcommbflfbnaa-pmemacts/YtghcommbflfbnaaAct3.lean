/-
  act, whatever is asked.
-/
import Derived.Test.YtghcommbflfbnaaAct2
import Derived.Test.YtghcommbflfbnaaSaved
namespace Go.Proofs.Ytghcommbflfbnaa

theorem withPower_length {w : World} {p : Pl} {M : Pm} (h : MemIs w p M) : M.withPower.length = M.seen.length := by
  have hf := h.fuse
  unfold Pm.withPower
  split
  · rename_i xs e
    rw [e] at hf
    obtain ⟨_, _, _, _, hl⟩ := hf
    exact hl
  · rfl

/-- What a call leaves: as many words, the counts no lower and at most one higher. -/
structure Near (M M' : Pm) : Prop where
  len : M'.seen.length = M.seen.length
  s0 : M.steps ≤ M'.steps
  s1 : M'.steps ≤ M.steps + 1
  t0 : M.stores ≤ M'.stores
  t1 : M'.stores ≤ M.stores + 1

def Acted (w : World) (p : Pl) (q : Rp) (M : Pm) (e : Ending) (w' : World) : Prop := e = .returned (.bool true) ∧ ∃ p' q' M' R', Both w' p' q' M' R' ∧ BTo w p q w' p' q' ∧ Near M M'

theorem ActOk.acted {w w' : World} {p : Pl} {q : Rp} {M M' : Pm} {R' : Rf} {e : Ending} (h : ActOk w p q M' R' e w') (hn : Near M M') : Acted w p q M e w' := by
  obtain ⟨h1, p', q', h2, h3⟩ := h
  exact ⟨h1, p', q', M', R', h2, h3, hn⟩

theorem Near.refl (M : Pm) : Near M M := ⟨rfl, by omega, by omega, by omega, by omega⟩

theorem act_any {w : World} {p : Pl} {M : Pm} {q : Rp} {R : Rf} (h : Both w p q M R) (kd a v : Int) (hv0 : -9223372036854775808 ≤ v) (hv : v ≤ 9223372036854775807)
    (hs0 : -1000000000 < M.steps) (hs : M.steps < 1000000000) (ht0 : -1000000000 < M.stores) (ht : M.stores < 1000000000) :
    Calls Try.prog 15 #[.pointer (some ⟨p.b, 0, none⟩), .pointer (some ⟨q.b, 0, none⟩), .agg #[.int .i64 kd, .int .i64 a, .int .i64 v]] w (Acted w p q M) := by
  have hseen := h.sim.seen
  have hst := h.sim.steps
  have hmn := h.sim.many
  by_cases h4 : kd < 4
  · by_cases hin : 0 ≤ a ∧ a < (M.seen.length : Int)
    · obtain ⟨k, rfl⟩ := Int.eq_ofNat_of_zero_le hin.1
      have hk : k < M.seen.length := by omega
      refine (act_store h (sim_store h.sim k (IntKind.u64.wrap v) hk) kd k v 0 h4 (fun w hm => store_yes hm k _ hk hs0 hs ht0 ht) (fun w hr => rstore_yes hr k _ (by rw [hseen]; exact hk) (by omega) (by omega) (by omega) (by omega))).mono ?_
      exact fun e w' ha => ha.acted ⟨by rw [store_seen]; simp, by rw [store_steps]; omega, by rw [store_steps]; omega, by rw [store_stores]; omega, by rw [store_stores]; omega⟩
    · refine (act_store h h.sim kd a v 101 h4 (fun w hm => (store_no hm a _ (by omega)).mono fun e w' h1 => ⟨h1.1, p, To.still h1.2, hm.kept0 h1.2⟩) (fun w hr => (rstore_no hr a _ (by rw [hseen]; omega)).mono fun e w' h1 => ⟨h1.1, q, by rw [← h1.2]; exact RTo.refl _ _, by rw [← h1.2]; exact hr⟩)).mono ?_
      exact fun e w' ha => ha.acted (Near.refl M)
  by_cases h6 : kd < 6
  · by_cases hin : 0 ≤ a ∧ 8 * a + 8 ≤ (M.seen.length : Int)
    · obtain ⟨k, rfl⟩ := Int.eq_ofNat_of_zero_le hin.1
      have hk : 8 * k + 8 ≤ M.seen.length := by omega
      refine (act_flush h (sim_flush h.sim h.ref.ok k hk) kd k v 0 (by omega) h6 (fun w hm => flush_yes hm k hk hs0 hs) (fun w hr => rflush_yes hr k (by rw [hseen]; exact hk) (by omega) (by omega))).mono ?_
      exact fun e w' ha => ha.acted ⟨by rw [flush_seen], by rw [flush_steps]; omega, by rw [flush_steps]; omega, by rw [flush_stores]; omega, by rw [flush_stores]; omega⟩
    · refine (act_flush h h.sim kd a v 101 (by omega) h6 (fun w hm => (flush_no hm a (by omega)).mono fun e w' h1 => ⟨h1.1, p, To.still h1.2, hm.kept0 h1.2⟩) (fun w hr => (rflush_no hr a (by rw [hseen]; omega)).mono fun e w' h1 => ⟨h1.1, q, by rw [← h1.2]; exact RTo.refl _ _, by rw [← h1.2]; exact hr⟩)).mono ?_
      exact fun e w' ha => ha.acted (Near.refl M)
  by_cases e6 : kd = 6
  · subst e6
    refine (act_fence h (sim_fence h.sim h.ref.ok h.mem.ok) a v 0 (fun w hm => fence_any hm hs0 hs) (fun w hr => rfence_any hr (by omega) (by omega))).mono ?_
    exact fun e w' ha => ha.acted ⟨by rw [fence_seen], by rw [fence_steps]; omega, by rw [fence_steps]; omega, by rw [fence_stores]; omega, by rw [fence_stores]; omega⟩
  by_cases e7 : kd = 7
  · subst e7
    by_cases hn : v < 0
    · refine (act_fuse h h.sim a v 102 (fun w hm => (fuse_no v hn).mono fun e w' h1 => ⟨h1.1, p, by rw [h1.2]; exact To.refl _ _, by rw [h1.2]; exact hm⟩) (fun w hr => (rfuse_no w q.b v hn).mono fun e w' h1 => ⟨h1.1, q, by rw [← h1.2]; exact RTo.refl _ _, by rw [← h1.2]; exact hr⟩)).mono ?_
      exact fun e w' ha => ha.acted (Near.refl M)
    · refine (act_fuse h (sim_setFuse h.sim v (by omega)) a v 0 (fun w hm => fuse_yes hm v (by omega) hv) (fun w hr => rfuse_yes hr v (by omega) hv)).mono ?_
      exact fun e w' ha => ha.acted ⟨by rw [setFuse_seen], by rw [setFuse_steps]; omega, by rw [setFuse_steps]; omega, by rw [setFuse_stores]; omega, by rw [setFuse_stores]; omega⟩
  by_cases e8 : kd = 8
  · subst e8
    refine (act_crash h (sim_crash h.sim v) a v 0 (fun w hm => crash_any hm v hv) (fun w hr => rcrash_any hr v ⟨hv0, hv⟩)).mono ?_
    exact fun e w' ha => ha.acted ⟨saved_length h.mem.ok (withPower_length h.mem) v, by show M.steps ≤ M.steps; omega, by show M.steps ≤ M.steps + 1; omega, by show M.stores ≤ M.stores; omega, by show M.stores ≤ M.stores + 1; omega⟩
  by_cases hn : a < 0
  · exact (act_load_neg h kd a v (by omega) hn).mono fun e w' ha => ha.acted (Near.refl M)
  by_cases hh : (M.seen.length : Int) ≤ a
  · exact (act_load_high h kd a v (by omega) (by omega) hh).mono fun e w' ha => ha.acted (Near.refl M)
  · exact (act_load_yes h kd a v (by omega) (by omega) (by omega)).mono fun e w' ha => ha.acted (Near.refl M)

end Go.Proofs.Ytghcommbflfbnaa
