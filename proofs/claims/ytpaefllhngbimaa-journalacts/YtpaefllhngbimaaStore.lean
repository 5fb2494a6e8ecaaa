/-
  Store: a word is seen; what is on its way of its line is held.
-/
import Derived.Test.YtpaefllhngbimaaStep
import Derived.Deep.QuietTactic
import Derived.BigQuiet
namespace Go.Proofs.Ytpaefllhngbimaa
open Go.RowKit

/-- The work of a Store. -/
def Pm.put (M : Pm) (pw : Bool) (k : Nat) (v : Int) : Pm :=
  let N := if pw then M.hold (k / 8) else M
  { N with seen := N.seen.set k v }

theorem hold_seen (M : Pm) (l : Nat) : (M.hold l).seen = M.seen := by
  unfold Pm.hold; split <;> rfl

/-- A block that is none of the memory's own. -/
theorem Kept.cell {F : List Nat} {w w' : World} (h : Kept F w w') {x i : Nat} {v : Value} (ha : w.cell? ⟨x, i, none⟩ = some v) (hF : x ∉ F) : w'.cell? ⟨x, i, none⟩ = some v := by
  rw [World.cell?_of_block (a := ⟨x, i, none⟩) (h.block x (block_lt_of_cell ha) hF)]; exact ha

theorem cell_put_other {w : World} {b i x j : Nat} {v u : Value} (h : w.cell? ⟨x, j, none⟩ = some u) (hx : x ≠ b) : (w.setCell ⟨b, i, none⟩ v).cell? ⟨x, j, none⟩ = some u := by
  rw [World.cell?_of_block (w := w) (a := ⟨x, j, none⟩) (heap_set_other hx)]; exact h

set_option maxHeartbeats 1000000 in
theorem put_tail {w : World} {p : Pl} {M : Pm} (h : MemIs w p M) (am aa av : Nat) (k : Nat) (v : Int) (hk : k < M.seen.length)
    (h1 : w.cell? ⟨am, 0, none⟩ = some (.pointer (some ⟨p.b, 0, none⟩))) (h2 : w.cell? ⟨aa, 0, none⟩ = some (.int .i64 (k : Int))) (h3 : w.cell? ⟨av, 0, none⟩ = some (.int .u64 v)) :
    Calls Try.prog 27 #[.bool false, .pointer (some ⟨am, 0, none⟩), .pointer (some ⟨aa, 0, none⟩), .pointer (some ⟨av, 0, none⟩)] w fun e w' => e = .returned (.tuple #[]) ∧ ∃ p', To w p w' p' ∧ MemIs w' p' { M with seen := M.seen.set k v } := by
  have c0 : w.cell? ⟨p.b, 0, none⟩ = some (.slice (some ⟨p.bs, 0, none⟩) M.seen.length (M.seen.length + p.zs.length)) := by simpa using h.cell 0
  have ck : w.cell? ⟨p.bs, k, none⟩ = some (.int .u64 (wordAt M.seen k)) := row_word h.seen hk
  have fk : w.frozen? ⟨p.bs, k, none⟩ = false := row_frozen h.seen k
  have hi := h.ok.hi
  have i0 : (0 : Int) ≤ (k : Int) := by omega
  have i1 : (k : Int) < (M.seen.length : Int) := by omega
  go_enter Try.func27, Try.ntmps27
  go_wp2
  go_region
  all_goals (go_end0)
  all_goals exact ⟨rfl, p, ⟨rfl, (((Kept.refl _ _).setCell (by simp [Pl.blocks]) _).drew), fun k hk => Or.inl hk⟩, (h.setSeen k hk v).kept0 (Kept.refl _ _).drew⟩

set_option maxHeartbeats 1000000 in
theorem put_hold {w : World} {p : Pl} {M : Pm} (h : MemIs w p M) (am aa av : Nat) (k : Nat) (v : Int) (hk : k < M.seen.length)
    (h1 : w.cell? ⟨am, 0, none⟩ = some (.pointer (some ⟨p.b, 0, none⟩))) (h2 : w.cell? ⟨aa, 0, none⟩ = some (.int .i64 (k : Int))) (h3 : w.cell? ⟨av, 0, none⟩ = some (.int .u64 v))
    (n1 : am ∉ p.blocks) (n2 : aa ∉ p.blocks) (n3 : av ∉ p.blocks) :
    Calls Try.prog 27 #[.bool true, .pointer (some ⟨am, 0, none⟩), .pointer (some ⟨aa, 0, none⟩), .pointer (some ⟨av, 0, none⟩)] w fun e w' => e = .returned (.tuple #[]) ∧ ∃ p', To w p w' p' ∧ MemIs w' p' { M.hold (k / 8) with seen := M.seen.set k v } := by
  have hi := h.ok.hi
  have hmul := h.ok.mul
  go_enter Try.func27, Try.ntmps27
  go_wp2_with fail
  rw [show ((k : Int) / 8) = ((k / 8 : Nat) : Int) from by omega]
  refine (hold_any h (k / 8) (by omega)).mono ?_
  rintro e w1 ⟨rfl, p1, hto, hm⟩
  have hb := hto.b
  have hs := hold_seen M (k / 8)
  have g1 := hto.kept.cell h1 n1
  have g2 := hto.kept.cell h2 n2
  have g3 := hto.kept.cell h3 n3
  have c0 : w1.cell? ⟨p1.b, 0, none⟩ = some (.slice (some ⟨p1.bs, 0, none⟩) M.seen.length (M.seen.length + p1.zs.length)) := by have := hm.cell 0; rw [hs] at this; simpa using this
  have ck : w1.cell? ⟨p1.bs, k, none⟩ = some (.int .u64 (wordAt (M.hold (k / 8)).seen k)) := row_word hm.seen (by rw [hs]; exact hk)
  have fk : w1.frozen? ⟨p1.bs, k, none⟩ = false := row_frozen hm.seen k
  have i0 : (0 : Int) ≤ (k : Int) := by omega
  have i1 : (k : Int) < (M.seen.length : Int) := by omega
  rw [hb] at c0
  have HX : Hid (_ ∧ _) := ⟨hto, hs⟩
  clear h1 h2 h3 hto hb hs n1 n2 n3
  go_wp2
  go_region
  all_goals (go_end0)
  all_goals
    obtain ⟨hto, hs⟩ := HX.out
    refine ⟨rfl, p1, hto.trans ⟨rfl, (((Kept.refl _ _).setCell (by simp [Pl.blocks]) _).drew), fun k hk => Or.inl hk⟩, ?_⟩
    have := (hm.setSeen k (by rw [hs]; exact hk) v).kept0 (Kept.refl _ _).drew
    rw [hs] at this
    exact this

theorem put_any {w : World} {p : Pl} {M : Pm} (h : MemIs w p M) (am aa av : Nat) (pw : Bool) (k : Nat) (v : Int) (hk : k < M.seen.length)
    (h1 : w.cell? ⟨am, 0, none⟩ = some (.pointer (some ⟨p.b, 0, none⟩))) (h2 : w.cell? ⟨aa, 0, none⟩ = some (.int .i64 (k : Int))) (h3 : w.cell? ⟨av, 0, none⟩ = some (.int .u64 v))
    (n1 : am ∉ p.blocks) (n2 : aa ∉ p.blocks) (n3 : av ∉ p.blocks) :
    Calls Try.prog 27 #[.bool pw, .pointer (some ⟨am, 0, none⟩), .pointer (some ⟨aa, 0, none⟩), .pointer (some ⟨av, 0, none⟩)] w fun e w' => e = .returned (.tuple #[]) ∧ ∃ p', To w p w' p' ∧ MemIs w' p' (M.put pw k v) := by
  cases pw with
  | false => exact put_tail h am aa av k v hk h1 h2 h3
  | true =>
    have := put_hold h am aa av k v hk h1 h2 h3 n1 n2 n3
    have e : M.put true k v = { M.hold (k / 8) with seen := M.seen.set k v } := by simp [Pm.put, hold_seen]
    rw [e]
    exact this

/-- A Store that is OK. -/
def Pm.store (M : Pm) (k : Nat) (v : Int) : Pm := (({ M with stores := M.stores + 1, steps := M.steps + 1 } : Pm).put M.power k v).burn

theorem callFunc36 (args : Array Value) (w : World) : (callFunc 27 args).run Try.prog w = .ok (.enter 27 args) w := by kernel_rfl

set_option maxHeartbeats 1000000 in
theorem store_yes {w : World} {p : Pl} {M : Pm} (h : MemIs w p M) (k : Nat) (v : Int) (hk : k < M.seen.length) (hs0 : -1000000000 < M.steps) (hs : M.steps < 1000000000) (ht0 : -1000000000 < M.stores) (ht : M.stores < 1000000000) :
    Calls Try.prog 11 #[.pointer (some ⟨p.b, 0, none⟩), .int .i64 (k : Int), .int .u64 v] w fun e w' => e = .returned (.int .i64 0) ∧ ∃ p', To w p w' p' ∧ MemIs w' p' (M.store k v) := by
  have hi := h.ok.hi
  have hlt := lt_of_heap h.main
  have c0 : w.cell? ⟨p.b, 0, none⟩ = some (.slice (some ⟨p.bs, 0, none⟩) M.seen.length (M.seen.length + p.zs.length)) := by simpa using h.cell 0
  have c5 : w.cell? ⟨p.b, 5, none⟩ = some (.int .i64 M.stores) := by simpa using h.cell 5
  have f5 := h.frozen 5
  have d1 : decide ((k : Int) < 0) = false := by simp
  have i1 : (k : Int) < (M.seen.length : Int) := by omega
  obtain ⟨W, hW⟩ : ∃ W, W = ((w.alloc (.cells #[.pointer (some ⟨p.b, 0, none⟩)] 23)).alloc (.cells #[.int .i64 (k : Int)] 3)).alloc (.cells #[.int .u64 v] 29) := ⟨_, rfl⟩
  have hK : Kept [] w W := by rw [hW]; exact (((Kept.refl _ _).alloc _).alloc _).alloc _
  have g1 : W.cell? ⟨w.heap.size, 0, none⟩ = some (.pointer (some ⟨p.b, 0, none⟩)) := by rw [hW]; go_simp
  have g2 : W.cell? ⟨w.heap.size + 1, 0, none⟩ = some (.int .i64 (k : Int)) := by rw [hW]; go_simp
  have g3 : W.cell? ⟨w.heap.size + 1 + 1, 0, none⟩ = some (.int .u64 v) := by rw [hW]; go_simp
  go_enter Try.func11, Try.ntmps11
  go_wp2
  rw [← hW]
  have h1 := h.kept0 hK
  have c0' : W.cell? ⟨p.b, 0, none⟩ = some (.slice (some ⟨p.bs, 0, none⟩) M.seen.length (M.seen.length + p.zs.length)) := by simpa using h1.cell 0
  have c5' : W.cell? ⟨p.b, 5, none⟩ = some (.int .i64 M.stores) := by simpa using h1.cell 5
  have f5' := h1.frozen 5
  clear c0 c5 f5 hW
  go_quiet (fail)
  go_wp2_with fail
  have hn : ∀ x, w.heap.size ≤ x → x ∉ p.blocks := fun x hx hm => by have := h.blocks_lt x hm; omega
  have hm5 : MemIs ((W.drewN nq).setCell ⟨p.b, 5, none⟩ (.int .i64 (M.stores + 1))) p { M with stores := M.stores + 1 } := (h1.kept0 ((Kept.refl _ _).drewN nq)).setStores _
  have hto5 : To w p ((W.drewN nq).setCell ⟨p.b, 5, none⟩ (.int .i64 (M.stores + 1))) p := ⟨rfl, ((hK.mono (by simp)).drewN nq).setCell (by simp [Pl.blocks]) _, fun k hk => Or.inl hk⟩
  have hout : ∀ x v, w.heap.size ≤ x → W.cell? ⟨x, 0, none⟩ = some v → ((W.drewN nq).setCell ⟨p.b, 5, none⟩ (.int .i64 (M.stores + 1))).cell? ⟨x, 0, none⟩ = some v := fun x v hx hc => cell_put_other hc (by omega)
  refine (step_any (M1 := ({ M with stores := M.stores + 1, steps := M.steps + 1 } : Pm).put M.power k v) hm5 27 _ hs0 hs callFunc36 ?_).mono ?_
  · intro w1 hto hm
    exact put_any hm _ _ _ _ k v hk (hto.kept.cell (hout _ _ (by omega) g1) (hn _ (by omega))) (hto.kept.cell (hout _ _ (by omega) g2) (hn _ (by omega))) (hto.kept.cell (hout _ _ (by omega) g3) (hn _ (by omega))) (hn _ (by omega)) (hn _ (by omega)) (hn _ (by omega))
  · rintro e w2 ⟨rfl, p2, hto2, hm2⟩
    have HX : Hid (_ ∧ _) := ⟨hto5.trans hto2, hm2⟩
    clear c0' c5' f5' hout hm5 hto5 hto2 hm2 hn h1 g1 g2 g3
    go_wp2
    go_ret
    exact ⟨rfl, p2, HX.out.1, HX.out.2⟩

end Go.Proofs.Ytpaefllhngbimaa
