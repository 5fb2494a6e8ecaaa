/-
  The reference memory (concourseref1): how it lies in the heap; what a store into one of its blocks makes of it.
-/
import Derived.Test.YtghcommbflfbnaaCopy
namespace Go.Proofs.Ytghcommbflfbnaa
open Go.RowKit

/-- The reference's state. -/
structure Rf where
  seen : List Int
  last : List Int
  way : List Int
  going : List Bool
  fuse : Bool
  left : Int
  thn : Option (List Int)
  steps : Int
  many : Int

structure Rp where
  b : Nat
  bs : Nat
  bl : Nat
  bw : Nat
  bg : Nat
  zs : List Value
  zl : List Value
  zw : List Value
  zg : List Value
  tv : Value

def sb : Value → List Nat
  | .slice (some a) _ _ => [a.block]
  | _ => []

def Rp.blocks (p : Rp) : List Nat := p.b :: p.bs :: p.bl :: p.bw :: p.bg :: sb p.tv

def brow (xs : List Bool) (zs : List Value) : Array Value := (xs.map Value.bool ++ zs).toArray

def ThenIs (w : World) (tv : Value) (n : Nat) : Option (List Int) → Prop
  | none => tv = .slice none 0 0
  | some xs => ∃ f zf, tv = .slice (some ⟨f, 0, none⟩) xs.length (xs.length + zf.length) ∧ w.heap[f]? = some (.cells (row xs zf) 44 (0, 0)) ∧ xs.length = n

structure Rf.Ok (R : Rf) : Prop where
  llen : R.last.length = R.seen.length
  wlen : R.way.length = R.seen.length
  glen : R.going.length = R.seen.length / 8
  mul : R.seen.length % 8 = 0
  lo : 8 ≤ R.seen.length
  hi : R.seen.length ≤ 65536
  left : 0 ≤ R.left ∧ R.left ≤ 9223372036854775807

def Rp.cells (p : Rp) (R : Rf) : Array Value := #[.slice (some ⟨p.bs, 0, none⟩) R.seen.length (R.seen.length + p.zs.length), .slice (some ⟨p.bl, 0, none⟩) R.seen.length (R.seen.length + p.zl.length), .slice (some ⟨p.bw, 0, none⟩) R.seen.length (R.seen.length + p.zw.length),
  .slice (some ⟨p.bg, 0, none⟩) (R.seen.length / 8) (R.seen.length / 8 + p.zg.length), .bool R.fuse, .int .i64 R.left, p.tv, .int .i64 R.steps, .int .i64 R.many]

structure RefIs (w : World) (p : Rp) (R : Rf) : Prop where
  ok : R.Ok
  main : w.heap[p.b]? = some (.cells (p.cells R) 41 (0, 0))
  seen : w.heap[p.bs]? = some (.cells (row R.seen p.zs) 44 (0, 0))
  last : w.heap[p.bl]? = some (.cells (row R.last p.zl) 44 (0, 0))
  way : w.heap[p.bw]? = some (.cells (row R.way p.zw) 44 (0, 0))
  going : w.heap[p.bg]? = some (.cells (brow R.going p.zg) 4 (0, 0))
  thn : ThenIs w p.tv R.seen.length R.thn
  apart : p.blocks.Nodup

theorem ThenIs.block {w : World} {tv : Value} {n : Nat} {T : Option (List Int)} (h : ThenIs w tv n T) : ∀ k ∈ sb tv, k < w.heap.size := by
  match T, h with
  | none, h => simp only [ThenIs] at h; subst h; simp [sb]
  | some xs, h =>
    obtain ⟨f, zf, rfl, hf, _⟩ := h
    simp only [sb, List.mem_singleton]; rintro k rfl; exact lt_of_heap hf

theorem ThenIs.kept {w w' : World} {tv : Value} {n : Nat} {T : Option (List Int)} (h : ThenIs w tv n T) (hk : ∀ k ∈ sb tv, w'.heap[k]? = w.heap[k]?) : ThenIs w' tv n T := by
  match T, h with
  | none, h => exact h
  | some xs, h =>
    obtain ⟨f, zf, rfl, hf, hl⟩ := h
    exact ⟨f, zf, rfl, by rw [hk f (by simp [sb])]; exact hf, hl⟩

theorem mem_rblocks {p : Rp} {k : Nat} : k ∈ p.blocks ↔ k = p.b ∨ k = p.bs ∨ k = p.bl ∨ k = p.bw ∨ k = p.bg ∨ k ∈ sb p.tv := by simp [Rp.blocks]

theorem RefIs.blocks_lt {w : World} {p : Rp} {R : Rf} (h : RefIs w p R) : ∀ k ∈ p.blocks, k < w.heap.size := by
  intro k hk
  rw [mem_rblocks] at hk
  rcases hk with rfl | rfl | rfl | rfl | rfl | hk
  · exact lt_of_heap h.main
  · exact lt_of_heap h.seen
  · exact lt_of_heap h.last
  · exact lt_of_heap h.way
  · exact lt_of_heap h.going
  · exact h.thn.block k hk

theorem RefIs.same {w w' : World} {p : Rp} {R : Rf} (h : RefIs w p R) (hk : ∀ k ∈ p.blocks, w'.heap[k]? = w.heap[k]?) : RefIs w' p R where
  ok := h.ok
  main := by rw [hk p.b (by simp [Rp.blocks])]; exact h.main
  seen := by rw [hk p.bs (by simp [Rp.blocks])]; exact h.seen
  last := by rw [hk p.bl (by simp [Rp.blocks])]; exact h.last
  way := by rw [hk p.bw (by simp [Rp.blocks])]; exact h.way
  going := by rw [hk p.bg (by simp [Rp.blocks])]; exact h.going
  thn := h.thn.kept fun k hm => hk k (by simp [Rp.blocks, hm])
  apart := h.apart

theorem RefIs.kept {w w' : World} {p : Rp} {R : Rf} {F : List Nat} (h : RefIs w p R) (hk : Kept F w w') (hd : ∀ k ∈ p.blocks, k ∉ F) : RefIs w' p R :=
  h.same fun k hm => hk.block k (h.blocks_lt k hm) (hd k hm)

theorem RefIs.kept0 {w w' : World} {p : Rp} {R : Rf} (h : RefIs w p R) (hk : Kept [] w w') : RefIs w' p R := h.kept hk (by simp)

theorem RefIs.cell {w : World} {p : Rp} {R : Rf} (h : RefIs w p R) (i : Nat) : w.cell? ⟨p.b, i, none⟩ = (p.cells R)[i]? := by simp [World.cell?, h.main]

theorem RefIs.frozen {w : World} {p : Rp} {R : Rf} (h : RefIs w p R) (i : Nat) : w.frozen? ⟨p.b, i, none⟩ = false := by simp [World.frozen?, h.main]

theorem RefIs.ne {w : World} {p : Rp} {R : Rf} (h : RefIs w p R) :
    (p.bs ≠ p.b ∧ p.bl ≠ p.b ∧ p.bw ≠ p.b ∧ p.bg ≠ p.b ∧ p.b ∉ sb p.tv) ∧ (p.bl ≠ p.bs ∧ p.bw ≠ p.bs ∧ p.bg ≠ p.bs ∧ p.bs ∉ sb p.tv) ∧ (p.bw ≠ p.bl ∧ p.bg ≠ p.bl ∧ p.bl ∉ sb p.tv) ∧ (p.bg ≠ p.bw ∧ p.bw ∉ sb p.tv) ∧ p.bg ∉ sb p.tv := by
  have hap := h.apart
  simp only [Rp.blocks, List.nodup_cons, List.mem_cons, not_or] at hap
  obtain ⟨⟨a1, a2, a3, a4, a5⟩, ⟨b1, b2, b3, b4⟩, ⟨c1, c2, c3⟩, ⟨d1, d2⟩, e1, _⟩ := hap
  exact ⟨⟨Ne.symm a1, Ne.symm a2, Ne.symm a3, Ne.symm a4, a5⟩, ⟨Ne.symm b1, Ne.symm b2, Ne.symm b3, b4⟩, ⟨Ne.symm c1, Ne.symm c2, c3⟩, ⟨Ne.symm d1, d2⟩, e1⟩

/-- From (w, p) to (w', p'). -/
structure RTo (w : World) (p : Rp) (w' : World) (p' : Rp) : Prop where
  b : p'.b = p.b
  kept : Kept p.blocks w w'
  fresh : ∀ k ∈ p'.blocks, k ∈ p.blocks ∨ w.heap.size ≤ k

theorem RTo.refl (w : World) (p : Rp) : RTo w p w p := ⟨rfl, Kept.refl _ _, fun _ h => Or.inl h⟩

theorem RTo.trans {w w' w'' : World} {p p' p'' : Rp} (h : RTo w p w' p') (k : RTo w' p' w'' p'') : RTo w p w'' p'' :=
  ⟨k.b.trans h.b, h.kept.trans k.kept h.fresh, fun x hx => by
    rcases k.fresh x hx with h1 | h1
    · exact h.fresh x h1
    · exact Or.inr (Nat.le_trans h.kept.size h1)⟩

theorem RTo.still {w w' : World} {p : Rp} (h : Kept [] w w') : RTo w p w' p := ⟨rfl, h.mono (by simp), fun _ h => Or.inl h⟩

/-- One of the plain fields (the fuse, what is left of it, the counts): cells 4, 5, 7, 8. -/
theorem RefIs.setField {w : World} {p : Rp} {R R' : Rf} (h : RefIs w p R) (i : Nat) (v : Value) (hc : (p.cells R).setIfInBounds i v = p.cells R') (hok : R'.Ok)
    (hs : R'.seen = R.seen) (hl : R'.last = R.last) (hw : R'.way = R.way) (hg : R'.going = R.going) (ht : R'.thn = R.thn) : RefIs (w.setCell ⟨p.b, i, none⟩ v) p R' := by
  obtain ⟨⟨n1, n2, n3, n4, n5⟩, _⟩ := h.ne
  exact { ok := hok
          main := by rw [main_set h.main, hc]
          seen := by rw [heap_set_other n1, hs]; exact h.seen
          last := by rw [heap_set_other n2, hl]; exact h.last
          way := by rw [heap_set_other n3, hw]; exact h.way
          going := by rw [heap_set_other n4, hg]; exact h.going
          thn := by rw [hs, ht]; exact h.thn.kept fun k hk => heap_set_other (ne_of_mem n5 hk)
          apart := h.apart }

theorem RTo.cell {w : World} {p : Rp} (i : Nat) (v : Value) : RTo w p (w.setCell ⟨p.b, i, none⟩ v) p := ⟨rfl, (Kept.refl _ _).setCell (by simp [Rp.blocks]) _, fun _ h => Or.inl h⟩

/-- What was seen at the fuse's end. -/
theorem RefIs.setThen {w : World} {p : Rp} {R : Rf} (h : RefIs w p R) (tv : Value) (T : Option (List Int)) (hT : ThenIs w tv R.seen.length T) (hn : ({ p with tv := tv } : Rp).blocks.Nodup) :
    RefIs (w.setCell ⟨p.b, 6, none⟩ tv) { p with tv := tv } { R with thn := T } := by
  obtain ⟨⟨n1, n2, n3, n4, n5⟩, _⟩ := h.ne
  have hb : p.b ∉ sb tv := by simp only [Rp.blocks, List.nodup_cons, List.mem_cons, not_or] at hn; exact hn.1.2.2.2.2
  exact { ok := ⟨h.ok.llen, h.ok.wlen, h.ok.glen, h.ok.mul, h.ok.lo, h.ok.hi, h.ok.left⟩
          main := by rw [main_set h.main]; simp [Rp.cells]
          seen := by rw [heap_set_other n1]; exact h.seen
          last := by rw [heap_set_other n2]; exact h.last
          way := by rw [heap_set_other n3]; exact h.way
          going := by rw [heap_set_other n4]; exact h.going
          thn := hT.kept fun k hk => heap_set_other (ne_of_mem hb hk)
          apart := hn }

theorem rnodup_new {w : World} {p : Rp} {R : Rf} {g n c : Nat} (h : RefIs w p R) (hg : w.heap.size ≤ g) : ({ p with tv := .slice (some ⟨g, 0, none⟩) n c } : Rp).blocks.Nodup := by
  have hl := h.blocks_lt
  have e1 := hl p.b (by simp [Rp.blocks])
  have e2 := hl p.bs (by simp [Rp.blocks])
  have e3 := hl p.bl (by simp [Rp.blocks])
  have e4 := hl p.bw (by simp [Rp.blocks])
  have e5 := hl p.bg (by simp [Rp.blocks])
  have hap := h.apart
  simp only [Rp.blocks, List.nodup_cons, List.mem_cons, not_or] at hap
  simp only [Rp.blocks, sb, List.nodup_cons, List.mem_cons, List.not_mem_nil, not_or, not_false_eq_true, and_true, List.nodup_nil]
  omega

theorem rnodup_nil {w : World} {p : Rp} {R : Rf} (h : RefIs w p R) : ({ p with tv := .slice none 0 0 } : Rp).blocks.Nodup := by
  have hap := h.apart
  simp only [Rp.blocks, List.nodup_cons, List.mem_cons, not_or] at hap
  simp only [Rp.blocks, sb, List.nodup_cons, List.mem_cons, List.not_mem_nil, not_or, not_false_eq_true, and_true, List.nodup_nil]
  omega

theorem RefIs.setSeen {w : World} {p : Rp} {R : Rf} (h : RefIs w p R) (i : Nat) (hi : i < R.seen.length) (v : Int) : RefIs (w.setCell ⟨p.bs, i, none⟩ (.int .u64 v)) p { R with seen := R.seen.set i v } := by
  obtain ⟨⟨n1, n2, n3, n4, n5⟩, ⟨m1, m2, m3, m4⟩, _⟩ := h.ne
  exact { ok := ⟨by simp [h.ok.llen], by simp [h.ok.wlen], by simp [h.ok.glen], by simp [h.ok.mul], by simp [h.ok.lo], by simp [h.ok.hi], h.ok.left⟩
          main := by rw [heap_set_other n1.symm]; simpa [Rp.cells] using h.main
          seen := by rw [main_set h.seen]; simp [row, hi]
          last := by rw [heap_set_other m1]; exact h.last
          way := by rw [heap_set_other m2]; exact h.way
          going := by rw [heap_set_other m3]; exact h.going
          thn := by
            have := h.thn.kept (w' := w.setCell ⟨p.bs, i, none⟩ (.int .u64 v)) fun k hk => heap_set_other (ne_of_mem m4 hk)
            simpa using this
          apart := h.apart }

theorem RefIs.setGoing {w : World} {p : Rp} {R : Rf} (h : RefIs w p R) (i : Nat) (hi : i < R.going.length) (v : Bool) : RefIs (w.setCell ⟨p.bg, i, none⟩ (.bool v)) p { R with going := R.going.set i v } := by
  obtain ⟨⟨n1, n2, n3, n4, n5⟩, ⟨m1, m2, m3, m4⟩, ⟨l1, l2, l3⟩, ⟨k1, k2⟩, j1⟩ := h.ne
  exact { ok := ⟨h.ok.llen, h.ok.wlen, by simp [h.ok.glen], h.ok.mul, h.ok.lo, h.ok.hi, h.ok.left⟩
          main := by rw [heap_set_other n4.symm]; simpa [Rp.cells] using h.main
          seen := by rw [heap_set_other m3.symm]; exact h.seen
          last := by rw [heap_set_other l2.symm]; exact h.last
          way := by rw [heap_set_other k1.symm]; exact h.way
          going := by rw [main_set h.going]; simp [brow, hi]
          thn := h.thn.kept fun k hk => heap_set_other (ne_of_mem j1 hk)
          apart := h.apart }

theorem setRow_other {w : World} {g k : Nat} {cs : Array Value} (hk : k ≠ g) : (w.setRow g cs).heap[k]? = w.heap[k]? := by
  simp only [World.setRow, Array.getElem?_modify]
  rw [if_neg (fun e => hk e.symm)]

theorem RefIs.setWay {w : World} {p : Rp} {R : Rf} (h : RefIs w p R) (xs : List Int) (hl : xs.length = R.seen.length) : RefIs (w.setRow p.bw (row xs p.zw)) p { R with way := xs } := by
  obtain ⟨⟨n1, n2, n3, n4, n5⟩, ⟨m1, m2, m3, m4⟩, ⟨l1, l2, l3⟩, ⟨k1, k2⟩, j1⟩ := h.ne
  exact { ok := ⟨h.ok.llen, hl, h.ok.glen, h.ok.mul, h.ok.lo, h.ok.hi, h.ok.left⟩
          main := by rw [setRow_other n3.symm]; exact h.main
          seen := by rw [setRow_other m2.symm]; exact h.seen
          last := by rw [setRow_other l1.symm]; exact h.last
          way := setRow_heap w p.bw _ _ _ _ h.way
          going := by rw [setRow_other k1]; exact h.going
          thn := h.thn.kept fun k hk => setRow_other (ne_of_mem k2 hk)
          apart := h.apart }

theorem RefIs.setLast {w : World} {p : Rp} {R : Rf} (h : RefIs w p R) (xs : List Int) (hl : xs.length = R.seen.length) : RefIs (w.setRow p.bl (row xs p.zl)) p { R with last := xs } := by
  obtain ⟨⟨n1, n2, n3, n4, n5⟩, ⟨m1, m2, m3, m4⟩, ⟨l1, l2, l3⟩, ⟨k1, k2⟩, j1⟩ := h.ne
  exact { ok := ⟨hl, h.ok.wlen, h.ok.glen, h.ok.mul, h.ok.lo, h.ok.hi, h.ok.left⟩
          main := by rw [setRow_other n2.symm]; exact h.main
          seen := by rw [setRow_other m1.symm]; exact h.seen
          last := setRow_heap w p.bl _ _ _ _ h.last
          way := by rw [setRow_other l1]; exact h.way
          going := by rw [setRow_other l2]; exact h.going
          thn := h.thn.kept fun k hk => setRow_other (ne_of_mem l3 hk)
          apart := h.apart }

/-- works: does a step work? -/
def Rf.canWork (R : Rf) : Bool := !R.fuse || decide (0 < R.left)
def Rf.worked (R : Rf) : Rf := { R with steps := R.steps + 1, left := if R.fuse && decide (0 < R.left) then R.left - 1 else R.left }
/-- mark: what is seen at the fuse's end, once. -/
def Rf.mark (R : Rf) : Rf := if R.fuse && decide (R.left = 0) && R.thn.isNone then { R with thn := some R.seen } else R

set_option maxHeartbeats 1000000 in
theorem works_any {w : World} {p : Rp} {R : Rf} (h : RefIs w p R) (hs0 : -1000000000 < R.steps) (hs : R.steps < 1000000000) :
    Calls Try.prog 46 #[.pointer (some ⟨p.b, 0, none⟩)] w fun e w' => e = .returned (.bool R.canWork) ∧ RTo w p w' p ∧ RefIs w' p R.worked := by
  have c7 : w.cell? ⟨p.b, 7, none⟩ = some (.int .i64 R.steps) := by simpa [Rp.cells] using h.cell 7
  have c4 : w.cell? ⟨p.b, 4, none⟩ = some (.bool R.fuse) := by simpa [Rp.cells] using h.cell 4
  have c5 : w.cell? ⟨p.b, 5, none⟩ = some (.int .i64 R.left) := by simpa [Rp.cells] using h.cell 5
  have f7 := h.frozen 7
  have f5 := h.frozen 5
  have hl := h.ok.left
  have h7 : RefIs (w.setCell ⟨p.b, 7, none⟩ (.int .i64 (R.steps + 1))) p { R with steps := R.steps + 1 } := h.setField 7 _ (by simp [Rp.cells]) ⟨h.ok.llen, h.ok.wlen, h.ok.glen, h.ok.mul, h.ok.lo, h.ok.hi, h.ok.left⟩ rfl rfl rfl rfl rfl
  cases hf : R.fuse with
  | false =>
    have hc : R.canWork = true := by simp [Rf.canWork, hf]
    have hw : R.worked = { R with steps := R.steps + 1 } := by simp [Rf.worked, hf]
    rw [hf] at c4
    have HX : Hid (_ ∧ _ ∧ _) := ⟨hc, hw, h7⟩
    clear hc hw h7 hf h
    go_enter Try.func46, Try.ntmps46
    go_wp2
    go_ret
    exact ⟨by rw [HX.out.1]; rfl, RTo.cell _ _, by rw [HX.out.2.1]; exact HX.out.2.2⟩
  | true =>
    by_cases hp : 0 < R.left
    · have hc : R.canWork = true := by simp [Rf.canWork, hp]
      have hw : R.worked = { R with steps := R.steps + 1, left := R.left - 1 } := by simp [Rf.worked, hf, hp]
      have h5 : RefIs ((w.setCell ⟨p.b, 7, none⟩ (.int .i64 (R.steps + 1))).setCell ⟨p.b, 5, none⟩ (.int .i64 (R.left - 1))) p { R with steps := R.steps + 1, left := R.left - 1 } := h7.setField 5 _ (by simp [Rp.cells]) ⟨h.ok.llen, h.ok.wlen, h.ok.glen, h.ok.mul, h.ok.lo, h.ok.hi, by simp only []; omega⟩ rfl rfl rfl rfl rfl
      rw [hf] at c4
      have HX : Hid (_ ∧ _ ∧ _) := ⟨hc, hw, h5⟩
      clear hc hw h7 hf h5 h
      go_enter Try.func46, Try.ntmps46
      go_wp2
      go_ret
      exact ⟨by rw [HX.out.1]; rfl, (RTo.cell _ _).trans (RTo.cell _ _), by rw [HX.out.2.1]; exact HX.out.2.2⟩
    · have hc : R.canWork = false := by simp [Rf.canWork, hf]; omega
      have hw : R.worked = { R with steps := R.steps + 1 } := by simp [Rf.worked, hp]
      rw [hf] at c4
      have HX : Hid (_ ∧ _ ∧ _) := ⟨hc, hw, h7⟩
      clear hc hw h7 hf h
      go_enter Try.func46, Try.ntmps46
      go_wp2
      go_ret
      exact ⟨by rw [HX.out.1]; rfl, RTo.cell _ _, by rw [HX.out.2.1]; exact HX.out.2.2⟩

end Go.Proofs.Ytghcommbflfbnaa
