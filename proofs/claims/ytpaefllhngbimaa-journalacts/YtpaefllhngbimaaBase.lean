/-
  What lies in memory of a simulated memory that lasts (package pmem): the representation of its state in the heap, and what is kept by a call.
-/
import Derived.Test.YtpaefllhngbimaaRows
import Derived.WalkKit
import Derived.WalkSpells
import Derived.WalkLawsBesides
import Derived.Deep.Draws
namespace Go.Proofs.Ytpaefllhngbimaa
open Go.RowKit

/-- A row of words as cells. -/
def u64s (xs : List Int) : Array Value := (xs.map (Value.int .u64)).toArray

theorem size_u64s (xs : List Int) : (u64s xs).size = xs.length := by simp [u64s]
theorem u64s_get (xs : List Int) (i : Nat) : (u64s xs)[i]? = (xs[i]?).map (Value.int .u64) := by simp [u64s]
theorem toList_u64s (xs : List Int) : (u64s xs).toList = xs.map (Value.int .u64) := by simp [u64s]

/-- A row of words, and what lies behind them. -/
def row (xs : List Int) (zs : List Value) : Array Value := (xs.map (Value.int .u64) ++ zs).toArray

theorem size_row (xs : List Int) (zs : List Value) : (row xs zs).size = xs.length + zs.length := by simp [row]
theorem toList_row (xs : List Int) (zs : List Value) : (row xs zs).toList = xs.map (Value.int .u64) ++ zs := by simp [row]

/-- A word of a row (0 behind its end). -/
def wordAt (xs : List Int) (i : Nat) : Int := xs.getD i 0

/-- All blocks of w but those of F are in w' as they were. -/
structure Kept (F : List Nat) (w w' : World) : Prop where
  os : w'.os = w.os
  tape : w'.tape = w.tape
  output : w'.output = w.output
  size : w.heap.size ≤ w'.heap.size
  block : ∀ k, k < w.heap.size → k ∉ F → w'.heap[k]? = w.heap[k]?

theorem nor {F : List Nat} {i n : Nat} (hF : i ∉ F) (hi : i < n) (h : i ∈ F ∨ n ≤ i) : False := by
  rcases h with h | h
  · exact hF h
  · omega

theorem Kept.refl (F : List Nat) (w : World) : Kept F w w := ⟨rfl, rfl, rfl, Nat.le_refl _, fun _ _ _ => rfl⟩

/-- One behind the other: what the second turns was turned by the first, or is new. -/
theorem Kept.trans {F G : List Nat} {a b c : World} (h : Kept F a b) (k : Kept G b c) (hG : ∀ x ∈ G, x ∈ F ∨ a.heap.size ≤ x) : Kept F a c :=
  ⟨k.os.trans h.os, k.tape.trans h.tape, k.output.trans h.output, Nat.le_trans h.size k.size, fun i hi hF =>
    (k.block i (Nat.lt_of_lt_of_le hi h.size) (fun hm => by exact nor hF hi (hG i hm))).trans (h.block i hi hF)⟩

theorem Kept.mono {F G : List Nat} {a b : World} (h : Kept F a b) (hG : ∀ x ∈ F, x ∈ G ∨ a.heap.size ≤ x) : Kept G a b :=
  ⟨h.os, h.tape, h.output, h.size, fun i hi hF => h.block i hi (fun hm => by exact nor hF hi (hG i hm))⟩

theorem Kept.drew {F : List Nat} {a w : World} (h : Kept F a w) : Kept F a w.drew := ⟨h.os, h.tape, h.output, h.size, h.block⟩

theorem Kept.drewN {F : List Nat} {a w : World} (h : Kept F a w) (n : Nat) : Kept F a (w.drewN n) := ⟨h.os, h.tape, h.output, h.size, h.block⟩

theorem Kept.alloc {F : List Nat} {a w : World} (h : Kept F a w) (o : Obj) : Kept F a (w.alloc o) :=
  ⟨h.os, h.tape, h.output, by have := h.size; simp; omega, fun i hi hF => by rw [Below.heap_alloc _ _ _ (Nat.lt_of_lt_of_le hi h.size)]; exact h.block i hi hF⟩

theorem Kept.setCell {F : List Nat} {a w : World} (h : Kept F a w) {p : Addr} (hp : p.block ∈ F ∨ a.heap.size ≤ p.block) (u : Value) : Kept F a (w.setCell p u) :=
  ⟨h.os, h.tape, h.output, by have := h.size; simpa using this, fun i hi hF => by
    rw [Below.heap_setCell _ _ _ _ (fun e => nor hF hi (by rw [e]; exact hp))]; exact h.block i hi hF⟩

theorem Kept.setRow {F : List Nat} {a w : World} (h : Kept F a w) {g : Nat} (hp : g ∈ F ∨ a.heap.size ≤ g) (cs : Array Value) : Kept F a (w.setRow g cs) :=
  ⟨h.os, h.tape, h.output, by have := h.size; simpa using this, fun i hi hF => by
    have : (w.setRow g cs).heap[i]? = w.heap[i]? := by
      simp only [World.setRow, Array.getElem?_modify]
      rw [if_neg (fun e => nor hF hi (by rw [← e]; exact hp))]
    rw [this]; exact h.block i hi hF⟩

theorem Kept.below {F : List Nat} {B : Nat} {a w : World} (h : Kept F a w) (hB : B ≤ a.heap.size) (hF : ∀ x ∈ F, B ≤ x) : Below B a w :=
  ⟨h.os, h.tape, h.output, h.size, fun i hi => h.block i (by omega) (fun hm => by have := hF i hm; omega)⟩

/-- The state of a memory: what is seen, what lasts, what is on its way (a line; none: unchanged since its flush; some: its words then), the fuse (steps left; or the words at its end), the counts. -/
structure Pm where
  seen : List Int
  lasts : List Int
  way : List (Nat × Option (List Int))
  fuse : Option (Int ⊕ List Int)
  steps : Int
  stores : Int

/-- Where it lies: the struct's block, the two rows' blocks and what is spare behind them, the map's value and the fuse's. -/
structure Pl where
  b : Nat
  bs : Nat
  bl : Nat
  zs : List Value
  zl : List Value
  mv : Value
  fv : Value

def vb : Value → List Nat
  | .map (some r) => [r]
  | .iface _ (.agg cs) => match (cs[0]? : Option Value) with
    | some (.slice (some a) _ _) => [a.block]
    | _ => []
  | _ => []

def Pl.blocks (p : Pl) : List Nat := p.b :: p.bs :: p.bl :: (vb p.mv ++ vb p.fv)

/-- What is on its way of a line, as the map holds it. -/
def wv : Option (List Int) → Value
  | none => .iface 83 (.agg #[])
  | some ws => .iface 88 (.agg (u64s ws))

def WayIs (w : World) (mv : Value) (W : List (Nat × Option (List Int))) : Prop :=
  (mv = .map none ∧ W = []) ∨ ∃ r es c, mv = .map (some r) ∧ w.heap[r]? = some (.map es c) ∧
    es.toList.map (fun e => (e.key, e.val)) = W.map (fun x => (Value.int .i64 (x.1 : Int), wv x.2)) ∧ (es.toList.map (·.born)).Nodup ∧ ∀ e ∈ es.toList, e.born < c

def FuseIs (w : World) (fv : Value) (n : Nat) : Option (Int ⊕ List Int) → Prop
  | none => fv = .nilIface
  | some (.inl k) => fv = .iface 80 (.agg #[.int .i64 k]) ∧ 0 < k ∧ k ≤ 9223372036854775807
  | some (.inr xs) => ∃ f zf, fv = .iface 104 (.agg #[.slice (some ⟨f, 0, none⟩) xs.length (xs.length + zf.length)]) ∧ w.heap[f]? = some (.cells (row xs zf) 29 (0, 0)) ∧ xs.length = n

/-- What is on its way lies in lines that are there, each once. -/
def WayOk (n : Nat) (W : List (Nat × Option (List Int))) : Prop :=
  (W.map Prod.fst).Nodup ∧ ∀ x ∈ W, 8 * x.1 + 8 ≤ n ∧ ∀ ws, x.2 = some ws → ws.length = 8

structure Pm.Ok (M : Pm) : Prop where
  len : M.lasts.length = M.seen.length
  mul : M.seen.length % 8 = 0
  lo : 8 ≤ M.seen.length
  hi : M.seen.length ≤ 65536
  way : WayOk M.seen.length M.way

structure MemIs (w : World) (p : Pl) (M : Pm) : Prop where
  ok : M.Ok
  main : w.heap[p.b]? = some (.cells #[.slice (some ⟨p.bs, 0, none⟩) M.seen.length (M.seen.length + p.zs.length), .slice (some ⟨p.bl, 0, none⟩) M.seen.length (M.seen.length + p.zl.length), p.mv, p.fv, .int .i64 M.steps, .int .i64 M.stores] 56 (0, 0))
  seen : w.heap[p.bs]? = some (.cells (row M.seen p.zs) 29 (0, 0))
  lasts : w.heap[p.bl]? = some (.cells (row M.lasts p.zl) 29 (0, 0))
  way : WayIs w p.mv M.way
  fuse : FuseIs w p.fv M.seen.length M.fuse
  apart : p.blocks.Nodup

theorem lt_of_heap {w : World} {k : Nat} {o : Obj} (h : w.heap[k]? = some o) : k < w.heap.size := (Array.getElem?_eq_some_iff.1 h).1

theorem WayIs.block {w : World} {mv : Value} {W : List (Nat × Option (List Int))} (h : WayIs w mv W) : ∀ k ∈ vb mv, k < w.heap.size := by
  rcases h with ⟨rfl, _⟩ | ⟨r, es, c, rfl, hr, _⟩
  · simp [vb]
  · simp only [vb, List.mem_singleton]; rintro k rfl; exact lt_of_heap hr

theorem FuseIs.block {w : World} {fv : Value} {n : Nat} {F : Option (Int ⊕ List Int)} (h : FuseIs w fv n F) : ∀ k ∈ vb fv, k < w.heap.size := by
  match F, h with
  | none, h => simp only [FuseIs] at h; subst h; simp [vb]
  | some (.inl k), h => obtain ⟨rfl, _⟩ := h; simp [vb]
  | some (.inr xs), h =>
    obtain ⟨f, zf, rfl, hf, _⟩ := h
    intro k hk
    have hk : k = f := by simpa [vb] using hk
    rw [hk]; exact lt_of_heap hf

theorem MemIs.blocks_lt {w : World} {p : Pl} {M : Pm} (h : MemIs w p M) : ∀ k ∈ p.blocks, k < w.heap.size := by
  intro k hk
  simp only [Pl.blocks, List.mem_cons, List.mem_append] at hk
  rcases hk with rfl | rfl | rfl | hk | hk
  · exact lt_of_heap h.main
  · exact lt_of_heap h.seen
  · exact lt_of_heap h.lasts
  · exact h.way.block k hk
  · exact h.fuse.block k hk

theorem WayIs.kept {w w' : World} {mv : Value} {W : List (Nat × Option (List Int))} (h : WayIs w mv W) (hk : ∀ k ∈ vb mv, w'.heap[k]? = w.heap[k]?) : WayIs w' mv W := by
  rcases h with h | ⟨r, es, c, rfl, hr, rest⟩
  · exact Or.inl h
  · exact Or.inr ⟨r, es, c, rfl, by rw [hk r (by simp [vb])]; exact hr, rest⟩

theorem FuseIs.kept {w w' : World} {fv : Value} {n : Nat} {F : Option (Int ⊕ List Int)} (h : FuseIs w fv n F) (hk : ∀ k ∈ vb fv, w'.heap[k]? = w.heap[k]?) : FuseIs w' fv n F := by
  match F, h with
  | none, h => exact h
  | some (.inl k), h => exact h
  | some (.inr xs), h =>
    obtain ⟨f, zf, rfl, hf, hl⟩ := h
    exact ⟨f, zf, rfl, by rw [hk f (by simp [vb])]; exact hf, hl⟩

/-- A memory whose blocks are as they were is as it was. -/
theorem MemIs.same {w w' : World} {p : Pl} {M : Pm} (h : MemIs w p M) (hk : ∀ k ∈ p.blocks, w'.heap[k]? = w.heap[k]?) : MemIs w' p M where
  ok := h.ok
  main := by rw [hk p.b (by simp [Pl.blocks])]; exact h.main
  seen := by rw [hk p.bs (by simp [Pl.blocks])]; exact h.seen
  lasts := by rw [hk p.bl (by simp [Pl.blocks])]; exact h.lasts
  way := h.way.kept fun k hm => hk k (by simp [Pl.blocks, hm])
  fuse := h.fuse.kept fun k hm => hk k (by simp [Pl.blocks, hm])
  apart := h.apart

theorem MemIs.kept {w w' : World} {p : Pl} {M : Pm} {F : List Nat} (h : MemIs w p M) (hk : Kept F w w') (hd : ∀ k ∈ p.blocks, k ∉ F) : MemIs w' p M :=
  h.same fun k hm => hk.block k (h.blocks_lt k hm) (hd k hm)

theorem MemIs.kept0 {w w' : World} {p : Pl} {M : Pm} (h : MemIs w p M) (hk : Kept [] w w') : MemIs w' p M := h.kept hk (by simp)

theorem MemIs.cell {w : World} {p : Pl} {M : Pm} (h : MemIs w p M) (i : Nat) : w.cell? ⟨p.b, i, none⟩ = #[Value.slice (some ⟨p.bs, 0, none⟩) M.seen.length (M.seen.length + p.zs.length), .slice (some ⟨p.bl, 0, none⟩) M.seen.length (M.seen.length + p.zl.length), p.mv, p.fv, .int .i64 M.steps, .int .i64 M.stores][i]? := by
  simp [World.cell?, h.main]

theorem MemIs.frozen {w : World} {p : Pl} {M : Pm} (h : MemIs w p M) (i : Nat) : w.frozen? ⟨p.b, i, none⟩ = false := by
  simp [World.frozen?, h.main]

theorem row_cell {w : World} {b : Nat} {xs : List Int} {zs : List Value} (h : w.heap[b]? = some (.cells (row xs zs) 29 (0, 0))) {i : Nat} (hi : i < xs.length) : w.cell? ⟨b, i, none⟩ = some (.int .u64 (xs[i])) := by
  simp [World.cell?, h, row, List.getElem?_append, hi]

theorem row_word {w : World} {b : Nat} {xs : List Int} {zs : List Value} (h : w.heap[b]? = some (.cells (row xs zs) 29 (0, 0))) {i : Nat} (hi : i < xs.length) : w.cell? ⟨b, i, none⟩ = some (.int .u64 (wordAt xs i)) := by
  rw [row_cell h hi]; simp [wordAt, List.getD, hi]

theorem row_frozen {w : World} {b : Nat} {cs : Array Value} {t : TypeId} (h : w.heap[b]? = some (.cells cs t (0, 0))) (i : Nat) : w.frozen? ⟨b, i, none⟩ = false := by
  simp [World.frozen?, h]

/-- Storing into the struct: the field i holds v now. -/
theorem main_set {w : World} {b i : Nat} {cs : Array Value} {t : TypeId} (h : w.heap[b]? = some (.cells cs t (0, 0))) (v : Value) : (w.setCell ⟨b, i, none⟩ v).heap[b]? = some (.cells (cs.setIfInBounds i v) t (0, 0)) :=
  heap_setCell_same w b i cs t v h

end Go.Proofs.Ytpaefllhngbimaa
