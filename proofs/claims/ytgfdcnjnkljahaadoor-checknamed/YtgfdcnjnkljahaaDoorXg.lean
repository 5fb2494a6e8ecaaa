/-
  All findings in their row, each once.
-/
import Derived.Test.YtgfdcnjnkljahaaDoorXf
import Derived.Laws.StructEq
namespace Go.Proofs.YtgfdcnjnkljahaaDoor
open Go.RowKit Go.Lib
set_option linter.unusedVariables false

theorem Tl.rebase {F G : List Nat} {w0 w : World} {X : Nat} {q : Lq} {v : Value} {L : List Fi} (h : Tl F w0 X q w v L) (hX : X ∈ G) (hG : ∀ k, v.ownBlock = some k → k ∈ G) : Tl G w X q w v L :=
  ⟨Kept.refl _ _, hX, h.blk, h.row, fun k hk => ⟨(h.own k hk).1, Or.inl (hG k hk)⟩⟩

theorem mem_swapL {L : List Fi} {i j : Nat} {x : Fi} (h : x ∈ swapL L i j) : x ∈ L := by
  unfold swapL at h
  split at h
  · rename_i y z h1 h2
    rcases List.mem_or_eq_of_mem_set h with h | rfl
    · rcases List.mem_or_eq_of_mem_set h with h | rfl
      · exact h
      · exact List.mem_of_getElem? h2
    · exact List.mem_of_getElem? h1
  · exact h

theorem mem_downF (k : Nat) : ∀ (L : List Fi) (i n : Nat) (x : Fi), x ∈ downF k L i n → x ∈ L := by
  induction k with
  | zero => intro L i n x h; exact h
  | succ k ih =>
    intro L i n x h
    rw [downF] at h
    split at h
    · exact h
    · dsimp only at h
      generalize (if 2 * i + 2 < n ∧ lessF (getF L (2 * i + 2)) (getF L (2 * i + 1)) = true then 2 * i + 2 else 2 * i + 1) = j at h
      split at h
      · exact mem_swapL (ih _ _ _ _ h)
      · exact h

theorem mem_popF {L : List Fi} {x : Fi} (h : x ∈ popF L) : x ∈ L := mem_swapL (mem_downF _ _ _ _ _ (List.mem_of_mem_take h))

theorem popF_length (L : List Fi) : (popF L).length = L.length - 1 := by
  unfold popF; rw [List.length_take, downF_length, swapL_length]; omega

/-- A finding behind others, unless it is there. -/
def moreF (M : List Fi) (f : Fi) : List Fi := if M.length = 0 ∨ getF M (M.length - 1) ≠ f then M ++ [f] else M

/-- Findings that come out of the heap, each once. -/
def rowF : Nat → List Fi → List Fi → List Fi
  | 0, _, M => M
  | k + 1, L, M => if L.length = 0 then M else rowF k (popF L) (moreF M (getF L 0))

theorem moreF_length (M : List Fi) (f : Fi) : (moreF M f).length ≤ M.length + 1 := by
  unfold moreF; split <;> simp

set_option maxRecDepth 100000 in
theorem neq_fi (f g : Fi) (w : World) : (binOp .neq 42 f.v g.v).run Tryd.prog w = .ok (.bool (decide (f ≠ g))) w := by
  have u3 := Tryd.underlying3
  have a3 := Tryd.isAgg3
  have z3 := Tryd.sizeOf3
  have u9 := Tryd.underlying9
  have a9 := Tryd.isAgg9
  have z9 := Tryd.sizeOf9
  have hS : Tryd.prog.underlying 42 = some (.struct (Tryd.prog.fieldsOf 42)) := by kernel_rfl
  have hp : Tryd.prog.stoodInHeld 42 = false := by kernel_rfl
  show (binOp .neq 42 (.agg #[.int .i64 f.kind, .int .i64 f.num, .string f.name]) (.agg #[.int .i64 g.kind, .int .i64 g.num, .string g.name])).run Tryd.prog w = _
  rw [run_neq_struct, show (10000 : Nat) = 9999 + 1 from rfl, run_equalIn_agg w 9999 42 _ _ hS hp]
  simp only [Program.fieldsOf, Tryd.underlying42]
  clear hS hp
  cases f with
  | mk k n s =>
  cases g with
  | mk k2 n2 s2 =>
  by_cases h1 : k = k2
  · by_cases h2 : n = n2
    · by_cases h3 : s = s2
      · subst h1 h2 h3
        go_simp
      · subst h1 h2
        go_simp
        intro e
        rw [ByteArray.toList_eq, ByteArray.toList_eq] at e
        apply h3
        cases s; cases s2
        simp only [ByteArray.mk.injEq]
        exact Array.toList_inj.1 e
    · subst h1
      go_simp
  · go_simp

/-- A row of findings of a call's own. -/
def Fr (H : Nat) (w : World) (v : Value) (M : List Fi) : Prop := w.ownsRow H 42 3 v M.length (fcs M)

theorem Fr.block {H : Nat} {w : World} {v : Value} {M : List Fi} (h : Fr H w v M) : ∀ k, v.ownBlock = some k → H ≤ k ∧ k < w.heap.size := World.ownsRow.lt h

theorem Fr.kept {H : Nat} {F : List Nat} {w w' : World} {v : Value} {M : List Fi} (h : Fr H w v M) (k : Kept F w w') (hF : ∀ x ∈ F, x < H) : Fr H w' v M := by
  refine ⟨h.1, ?_⟩
  rcases h.2 with hn | ⟨g, cap, cur, rfl, hb, hgg, rest⟩
  · exact .inl hn
  · exact .inr ⟨g, cap, cur, rfl, hb, by rw [k.block g (lt_of_heap hgg) (fun hm => by have := hF g hm; omega)]; exact hgg, rest⟩

theorem Fr.slice {H : Nat} {w : World} {v : Value} {M : List Fi} (h : Fr H w v M) : ∃ a cap, v = .slice a M.length cap ∧ M.length ≤ cap ∧ ∀ i (hi : i < M.length), ∃ g, a = some ⟨g, 0, none⟩ ∧ w.cell? ⟨g, i * 3, none⟩ = some (.int .i64 (M[i]).kind) ∧ w.cell? ⟨g, i * 3 + 1, none⟩ = some (.int .i64 (M[i]).num) ∧ w.cell? ⟨g, i * 3 + 2, none⟩ = some (.string (M[i]).name) ∧ ∀ j, w.frozen? ⟨g, j, none⟩ = false := by
  rcases h.2 with ⟨h1, h2⟩ | ⟨g, c, cur, h1, h2, h3, h4, h5, h6, h7⟩
  · exact ⟨none, 0, by rw [h1, h2], by omega, fun i hi => by omega⟩
  · refine ⟨_, c, h1, h4, fun i hi => ?_⟩
    have hq : ∀ j u, j < 3 → (M[i]).cs[j]? = some u → w.cell? ⟨g, i * 3 + j, none⟩ = some u := by
      intro j u hj hu
      have q := fcs_get M i _ (List.getElem?_eq_getElem hi) j hj
      rw [hu, ← h7, List.getElem?_take_of_lt (by omega)] at q
      have e : cur[i * 3 + j]? = some u := by simpa using q
      simp [World.cell?, h3, e]
    exact ⟨g, rfl, hq 0 _ (by omega) rfl, hq 1 _ (by omega) rfl, hq 2 _ (by omega) rfl, fun j => by simp [World.frozen?, h3]⟩

/-- How far inRow has come: the look, the row that is told. -/
structure Ir (F : List Nat) (w : World) (X : Nat) (q : Lq) (wr : World) (v vr : Value) (L M : List Fi) : Prop where
  tl : Tl F w X q wr v L
  ow : ∀ k, v.ownBlock = some k → k ∈ F
  fr : Fr w.heap.size wr vr M
  lt : ∀ x ∈ F, x < w.heap.size

theorem Ir.kept {F : List Nat} {w wr w' : World} {X : Nat} {q : Lq} {v vr : Value} {L M : List Fi} (h : Ir F w X q wr v vr L M) (k : Kept [] wr w') : Ir F w X q w' v vr L M :=
  ⟨h.tl.same k, h.ow, h.fr.kept k (by simp), h.lt⟩

theorem Ir.pop {F : List Nat} {w wr w' : World} {X : Nat} {q : Lq} {v v' vr : Value} {L L' M : List Fi} (h : Ir F w X q wr v vr L M) (hp : Tl F wr X q w' v' L') (ho : v'.ownBlock = v.ownBlock) : Ir F w X q w' v' vr L' M :=
  ⟨⟨h.tl.kept.trans hp.kept (fun x hx => Or.inl hx), hp.inF, hp.blk, hp.row, fun k hk => ⟨(hp.own k hk).1, Or.inl (h.ow k (ho ▸ hk))⟩⟩, fun k hk => h.ow k (ho ▸ hk), h.fr.kept hp.kept h.lt, h.lt⟩

theorem Ir.more {F : List Nat} {w wr w' : World} {X : Nat} {q : Lq} {v vr vr' : Value} {L M M' : List Fi} (h : Ir F w X q wr v vr L M) (hg : wr.grownBy w' vr.ownBlock) (hr : Fr w.heap.size w' vr' M') : Ir F w X q w' v vr' L M' := by
  have hX : w'.heap[X]? = wr.heap[X]? := hg.block X (lt_of_heap h.tl.blk) (fun e => by have := (h.fr.block X e.symm).1; have := h.lt X h.tl.inF; omega)
  refine ⟨⟨h.tl.kept.grown hg (fun k e => Or.inr (h.fr.block k e).1), h.tl.inF, by rw [hX]; exact h.tl.blk, ⟨h.tl.row.1, ?_⟩, h.tl.own⟩, h.ow, hr, h.lt⟩
  rcases h.tl.row.2 with hn | ⟨g, cap, cur, rfl, hb, hgg, rest⟩
  · exact .inl hn
  · exact .inr ⟨g, cap, cur, rfl, hb, by rw [hg.block g (lt_of_heap hgg) (fun e => by have := (h.fr.block g e.symm).1; have := h.lt g (h.ow g rfl); omega)]; exact hgg, rest⟩

end Go.Proofs.YtgfdcnjnkljahaaDoor
