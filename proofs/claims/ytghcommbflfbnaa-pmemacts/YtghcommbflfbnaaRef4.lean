/-
  The reference memory: Crash.
-/
import Derived.Test.YtghcommbflfbnaaRef3
namespace Go.Proofs.Ytghcommbflfbnaa
open Go.RowKit

def Rf.withThen (R : Rf) : List Int := match R.thn with
  | some xs => xs
  | none => R.seen

/-- Are the first j words of line i alike? -/
def smB (ws ls : List Int) (i j : Nat) : Bool := sameB ((lineList ws i).take j) ((lineList ls i).take j)

theorem smB_zero (ws ls : List Int) (i : Nat) : smB ws ls i 0 = true := by simp [smB, sameB]

theorem smB_all {ws ls : List Int} {i : Nat} (hw : 8 * i + 8 ≤ ws.length) (hl : 8 * i + 8 ≤ ls.length) : smB ws ls i 8 = sameB (lineList ws i) (lineList ls i) := by
  unfold smB
  rw [List.take_of_length_le (by rw [lineList_length hw]; exact Nat.le_refl _), List.take_of_length_le (by rw [lineList_length hl]; exact Nat.le_refl _)]

theorem smB_succ {ws ls : List Int} {i j : Nat} (hw : 8 * i + 8 ≤ ws.length) (hl : 8 * i + 8 ≤ ls.length) (hj : j < 8) : smB ws ls i (j + 1) = (smB ws ls i j && (wordAt ws (8 * i + j) == wordAt ls (8 * i + j))) := by
  have h1 := lineList_length hw
  have h2 := lineList_length hl
  unfold smB sameB
  rw [List.take_succ_eq_append_getElem (by omega), List.take_succ_eq_append_getElem (by omega), ← wordAt_lineList hj, ← wordAt_lineList hj]
  have e1 : (lineList ws i)[j] = wordAt (lineList ws i) j := by simp [wordAt, List.getD, h1, hj]
  have e2 : (lineList ls i)[j] = wordAt (lineList ls i) j := by simp [wordAt, List.getD, h2, hj]
  rw [e1, e2, Bool.eq_iff_iff]
  simp only [decide_eq_true_eq, Bool.and_eq_true, beq_iff_eq]
  constructor
  · intro h
    have := List.append_inj h (by simp [h1, h2])
    exact ⟨this.1, by simpa using this.2⟩
  · rintro ⟨ha, hb⟩
    rw [ha, hb]

/-- What is seen, as another row. -/
theorem RefIs.newSeen {w : World} {p : Rp} {R : Rf} (h : RefIs w p R) (xs : List Int) (hl : xs.length = R.seen.length) (g : Nat) (ys : List Value) (hg : w.heap[g]? = some (.cells (row xs ys) 44 (0, 0))) (hn : ({ p with bs := g, zs := ys } : Rp).blocks.Nodup) :
    RefIs (w.setCell ⟨p.b, 0, none⟩ (.slice (some ⟨g, 0, none⟩) R.seen.length (R.seen.length + ys.length))) { p with bs := g, zs := ys } { R with seen := xs } := by
  obtain ⟨⟨n1, n2, n3, n4, n5⟩, _⟩ := h.ne
  have hb : g ≠ p.b := by simp only [Rp.blocks, List.nodup_cons, List.mem_cons, not_or] at hn; exact fun e => hn.1.1 e.symm
  exact { ok := ⟨by simp [hl, h.ok.llen], by simp [hl, h.ok.wlen], by simp [hl, h.ok.glen], by simp [hl, h.ok.mul], by simp [hl, h.ok.lo], by simp [hl, h.ok.hi], h.ok.left⟩
          main := by rw [main_set h.main]; simp [Rp.cells, hl]
          seen := by rw [heap_set_other hb]; exact hg
          last := by rw [heap_set_other n2]; exact h.last
          way := by rw [heap_set_other n3]; exact h.way
          going := by rw [heap_set_other n4]; exact h.going
          thn := by
            have := h.thn.kept (w' := w.setCell ⟨p.b, 0, none⟩ (.slice (some ⟨g, 0, none⟩) R.seen.length (R.seen.length + ys.length))) fun k hk => heap_set_other (ne_of_mem n5 hk)
            simpa [hl] using this
          apart := hn }

theorem RefIs.newGoing {w : World} {p : Rp} {R : Rf} (h : RefIs w p R) (xs : List Bool) (hl : xs.length = R.seen.length / 8) (g : Nat) (hg : w.heap[g]? = some (.cells (brow xs []) 4 (0, 0))) (hn : ({ p with bg := g, zg := [] } : Rp).blocks.Nodup) :
    RefIs (w.setCell ⟨p.b, 3, none⟩ (.slice (some ⟨g, 0, none⟩) (R.seen.length / 8) (R.seen.length / 8))) { p with bg := g, zg := [] } { R with going := xs } := by
  obtain ⟨⟨n1, n2, n3, n4, n5⟩, _⟩ := h.ne
  have hb : g ≠ p.b := by simp only [Rp.blocks, List.nodup_cons, List.mem_cons, not_or] at hn; exact fun e => hn.1.2.2.2.1 e.symm
  exact { ok := ⟨h.ok.llen, h.ok.wlen, hl, h.ok.mul, h.ok.lo, h.ok.hi, h.ok.left⟩
          main := by rw [main_set h.main]; simp [Rp.cells]
          seen := by rw [heap_set_other n1]; exact h.seen
          last := by rw [heap_set_other n2]; exact h.last
          way := by rw [heap_set_other n3]; exact h.way
          going := by rw [heap_set_other hb]; exact hg
          thn := h.thn.kept fun k hk => heap_set_other (ne_of_mem n5 hk)
          apart := hn }

theorem rnodup_seen {w : World} {p : Rp} {R : Rf} {g : Nat} {ys : List Value} (h : RefIs w p R) (hg : w.heap.size ≤ g) : ({ p with bs := g, zs := ys } : Rp).blocks.Nodup := by
  have hl := h.blocks_lt
  have e1 := hl p.b (by simp [Rp.blocks])
  have e3 := hl p.bl (by simp [Rp.blocks])
  have e4 := hl p.bw (by simp [Rp.blocks])
  have e5 := hl p.bg (by simp [Rp.blocks])
  have e6 : g ∉ sb p.tv := fun hm => by have := hl g (by simp [Rp.blocks, hm]); omega
  have hap := h.apart
  simp only [Rp.blocks, List.nodup_cons, List.mem_cons, not_or] at hap ⊢
  obtain ⟨⟨a1, a2, a3, a4, a5⟩, ⟨b1, b2, b3, b4⟩, c, d, e, f⟩ := hap
  exact ⟨⟨by omega, a2, a3, a4, a5⟩, ⟨by omega, by omega, by omega, e6⟩, c, d, e, f⟩

theorem rnodup_going {w : World} {p : Rp} {R : Rf} {g : Nat} (h : RefIs w p R) (hg : w.heap.size ≤ g) : ({ p with bg := g, zg := [] } : Rp).blocks.Nodup := by
  have hl := h.blocks_lt
  have e1 := hl p.b (by simp [Rp.blocks])
  have e2 := hl p.bs (by simp [Rp.blocks])
  have e3 := hl p.bl (by simp [Rp.blocks])
  have e4 := hl p.bw (by simp [Rp.blocks])
  have e6 : g ∉ sb p.tv := fun hm => by have := hl g (by simp [Rp.blocks, hm]); omega
  have hap := h.apart
  simp only [Rp.blocks, List.nodup_cons, List.mem_cons, not_or] at hap ⊢
  obtain ⟨⟨a1, a2, a3, a4, a5⟩, ⟨b1, b2, b3, b4⟩, ⟨c1, c2, c3⟩, ⟨d1, d2⟩, e, f⟩ := hap
  exact ⟨⟨a1, a2, a3, by omega, a5⟩, ⟨b1, b2, by omega, b4⟩, ⟨c1, by omega, c3⟩, ⟨by omega, d2⟩, e6, f⟩

theorem info4 : (Try.prog.info? 4).map (fun i => (i.zero, i.size, i.bytes)) = some (some (.bool false), 1, 1) := by kernel_rfl

theorem make_brow (n : Nat) (h : n ≤ 65536) (w : World) : (Instr.makeSlice 39 (.int .i64 (n : Int)) (.int .i64 (n : Int))).run Try.prog w = .ok (.slice (some ⟨w.heap.size, 0, none⟩) n n) (w.alloc (.cells (brow (List.replicate n false) []) 4)) := by
  obtain ⟨i0, hi, hz0, hz1, hz2⟩ := info_parts info4
  have := run_make (P := Try.prog) w 39 4 i0 (.bool false) Try.underlying39 hi hz0 .i64 .i64 n n (by omega) (by omega) (by rw [hz2]; omega) (by omega)
  rw [this]
  have e : madeCells (Value.bool false).cells ((n : Int).toNat * i0.size) = brow (List.replicate n false) [] := by
    apply Array.ext'
    rw [hz1]
    simp [toList_madeCells_one, Value.cells, brow]
  rw [e]
  simp

def Rf.saved (R : Rf) (keep : Int) : List Int := (saveTo R.withThen R.last (max keep 0) (R.seen.length / 8)).1

def Rf.crash (R : Rf) (keep : Int) : Rf := { R with seen := R.saved keep, last := R.saved keep, going := List.replicate (R.seen.length / 8) false, fuse := false, thn := none }

end Go.Proofs.Ytghcommbflfbnaa
