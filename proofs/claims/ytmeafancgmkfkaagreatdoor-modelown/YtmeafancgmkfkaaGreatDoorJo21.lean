/-
  Joined of my texts An.
-/
import Derived.Test.YtmeafancgmkfkaaGreatDoorJo20
namespace Go.Proofs.YtmeafancgmkfkaaGreatDoor
open Go.RowKit
set_option linter.unusedVariables false
set_option linter.unusedSimpArgs false
def putS (S : Sta) (d : Int) (e : En) : Sta := match atR S.ino d with
 | none => S
 | some k => if hk : k < S.ino.length then setE S k hk (insR ltE (S.ino[k]).ents e) else S
theorem putS_at {S : Sta} {d : Int} {e : En} {k : Nat} (h : atR S.ino d = some k) (hk : k < S.ino.length) : putS S d e = setE S k hk (insR ltE (S.ino[k]).ents e) := by
 unfold putS
 rw [h]
 simp only [hk, dite_true]
structure Ans where
 code : Int
 fd : Int
 num : Int
 dir : Bool
 data : ByteArray
 names : List ByteArray
@[reducible] def ansV (a : Ans) (nv : Value) : Value := .agg #[.int .i64 a.code, .int .i64 a.fd, .int .i64 a.num, .bool a.dir, .string a.data, nv]
@[reducible] def ansC (code : Int) : Ans := ⟨code, 0, 0, false, ⟨#[]⟩, []⟩
def Oks (w0 w : World) (B : Nat) (c : Cal) (pk : Value) (v1 v2 v3 : Value) (ev : List Value) (x : Sta × Ans) (e : Ending) (w' : World) : Prop :=
 ∃ (z : Option Addr) (l k : Nat) (u1 u2 u3 : Value) (eu : List Value), e = .returned (ansV x.2 (.slice z l k)) ∧ Sr w' w.heap.size (.slice z l k) x.2.names ∧ (∀ b, (Value.slice z l k).ownBlock = some b → Off [b] u1 u2 u3 eu) ∧ Cb w0 w' B c pk u1 u2 u3 eu x.1 ∧ FrB B w w' v1 v2 v3 ev u1 u2 u3 eu
def Out (w0 w : World) (B : Nat) (c : Cal) (pk : Value) (v1 v2 v3 : Value) (ev : List Value) (S : Sta) (r : Except Int (Sta × Ans)) (e : Ending) (w' : World) : Prop := match r with
 | .error code => e = thr code ∧ ∃ u1 u2 u3 eu, Cb w0 w' B c pk u1 u2 u3 eu S ∧ FrB B w w' v1 v2 v3 ev u1 u2 u3 eu
 | .ok x => Oks w0 w B c pk v1 v2 v3 ev x e w'
theorem Out.err {w0 w : World} {B : Nat} {c : Cal} {pk v1 v2 v3 u1 u2 u3 : Value} {ev eu : List Value} {S : Sta} {r : Except Int (Sta × Ans)} {w' : World} {code : Int} (h : r = .error code) (k : Cb w0 w' B c pk u1 u2 u3 eu S) (f : FrB B w w' v1 v2 v3 ev u1 u2 u3 eu) : Out w0 w B c pk v1 v2 v3 ev S r (thr code) w' := by rw [h]; exact ⟨rfl, _, _, _, _, k, f⟩
theorem Out.val {w0 w : World} {B : Nat} {c : Cal} {pk v1 v2 v3 u1 u2 u3 : Value} {ev eu : List Value} {S S' : Sta} {r : Except Int (Sta × Ans)} {w' : World} {a : Ans} {v : Value} (h : r = .ok (S', a)) (hn : a.names = []) (hv : v = ansV a (.slice none 0 0)) (k : Cb w0 w' B c pk u1 u2 u3 eu S') (f : FrB B w w' v1 v2 v3 ev u1 u2 u3 eu) : Out w0 w B c pk v1 v2 v3 ev S r (.returned v) w' := by
 rw [h, hv]
 exact ⟨none, 0, 0, _, _, _, _, rfl, by rw [hn]; exact Sr.nil _ _, (fun b e => by cases e), k, f⟩
theorem boxR (w : World) (cs : Array Value) (t : TypeId) : ∃ W X, Hid (w.alloc (.cells cs t (0, 0)) = W ∧ w.heap.size = X) ∧ Hid (Kept [] w W) ∧ Hid (W.heap[X]? = some (.cells cs t (0, 0))) :=
 ⟨_, _, ⟨rfl, rfl⟩, (Kept.refl [] w).alloc _, Go.heap_alloc_new _ _⟩
@[reducible] def laidR (w : World) (R : Nat) (a b c d e f : Value) : World := (((((w.setCell ⟨R, 0, none⟩ a).setCell ⟨R, 1, none⟩ b).setCell ⟨R, 2, none⟩ c).setCell ⟨R, 3, none⟩ d).setCell ⟨R, 4, none⟩ e).setCell ⟨R, 5, none⟩ f
theorem block_res {w : World} {R : Nat} {T : TypeId} {c0 c1 c2 c3 c4 c5 : Value} (h : w.heap[R]? = some (.cells #[c0, c1, c2, c3, c4, c5] T (0, 0))) (a b c d e f : Value) : (laidR w R a b c d e f).heap[R]? = some (.cells #[a, b, c, d, e, f] T (0, 0)) := by
 unfold laidR
 rw [block_set (block_set (block_set (block_set (block_set (block_set h 0 _) 1 _) 2 _) 3 _) 4 _) 5 _]
 rfl
theorem Cb.res {w0 w : World} {B : Nat} {cl : Cal} {pk v1 v2 v3 : Value} {ev : List Value} {S : Sta} (h : Cb w0 w B cl pk v1 v2 v3 ev S) {R : Nat} (hR : w0.heap.size ≤ R) (ho : Off [R] v1 v2 v3 ev) (hB : R ≠ B) (a b c d e f : Value) : Cb w0 (laidR w R a b c d e f) B cl pk v1 v2 v3 ev S :=
 (((((h.beside hR ho hB a).beside hR ho hB b).beside hR ho hB c).beside hR ho hB d).beside hR ho hB e).beside hR ho hB f
theorem FrB.res {B : Nat} {w w' : World} {v1 v2 v3 u1 u2 u3 : Value} {ev eu : List Value} (h : FrB B w w' v1 v2 v3 ev u1 u2 u3 eu) {R : Nat} (hR : w.heap.size ≤ R) (a b c d e f : Value) : FrB B w (laidR w' R a b c d e f) v1 v2 v3 ev u1 u2 u3 eu :=
 (((((h.since hR a).since hR b).since hR c).since hR d).since hR e).since hR f
theorem heap_drew9 {w : World} : w.drew.heap = w.heap := rfl
theorem block_resd {w : World} {R : Nat} {T : TypeId} {c0 c1 c2 c3 c4 c5 : Value} (h : w.heap[R]? = some (.cells #[c0, c1, c2, c3, c4, c5] T (0, 0))) (a b c d e f : Value) : (laidR w R a b c d e f).drew.heap[R]? = some (.cells #[a, b, c, d, e, f] T (0, 0)) := by
 rw [heap_drew9]
 exact block_res h a b c d e f
theorem res_other {w : World} {R Z : Nat} {a b c d e f : Value} (h : Z ≠ R) : (laidR w R a b c d e f).heap[Z]? = w.heap[Z]? := by
 unfold laidR
 rw [block_other h, block_other h, block_other h, block_other h, block_other h, block_other h]
theorem Oks.laid {w0 w w5 w6 : World} {B : Nat} {c : Cal} {pk v1 v2 v3 u1 u2 u3 : Value} {ev eu : List Value} {S' : Sta} {A : Ans} {z : Option Addr} {l k : Nat} (hk : Kept [] w w5) {R : Nat} (hRl : w0.heap.size ≤ R) (hRw : w.heap.size ≤ R) (hR5 : R < w5.heap.size) (hRo : Off [R] v1 v2 v3 ev ∧ R ≠ B)
   (hsr : Sr w6 w5.heap.size (.slice z l k) A.names) (hof : ∀ b, (Value.slice z l k).ownBlock = some b → Off [b] u1 u2 u3 eu) (hcb : Cb w0 w6 B c pk u1 u2 u3 eu S') (hfr : FrB B w5 w6 v1 v2 v3 ev u1 u2 u3 eu) (a b d e f g : Value) :
   Oks w0 w B c pk v1 v2 v3 ev (S', A) (.returned (ansV A (.slice z l k))) (laidR w6 R a b d e f g) := by
 have h6 := hfr.2 R hR5 hRo.2 hRo.1
 refine ⟨z, l, k, u1, u2, u3, eu, rfl, ?_, hof, hcb.res hRl h6.2 hRo.2 _ _ _ _ _ _, FrB.res ((FrB.kept hk).trans hfr) hRw _ _ _ _ _ _⟩
 refine (hsr.same fun q hq => ?_).less hk.size
 have := (hsr.block q hq).1
 exact res_other (by omega)
end Go.Proofs.YtmeafancgmkfkaaGreatDoor
