/-
  Joined of my texts An Dl Df Dr Ta Ct.
-/
import Derived.Test.YtffncojcnbhblaaGreatDoorJd19
import Derived.Test.YtffncojcnbhblaaGreatDoorTk
set_option linter.unusedVariables false
set_option linter.unusedSimpArgs false
set_option maxRecDepth 100000
set_option maxHeartbeats 8000000
namespace Go.Proofs.YtffncojcnbhblaaGreatDoor
open Go.RowKit
def putS (S : Sta) (d : Int) (e : En) : Sta := match atR S.ino d with
 | none => S
 | some k => if hk : k < S.ino.length then setE S k hk (insR ltE (S.ino[k]).ents e) else S
theorem putS_at {S : Sta} {d : Int} {e : En} {k : Nat} (h : atR S.ino d = some k) (hk : k < S.ino.length) : putS S d e = setE S k hk (insR ltE (S.ino[k]).ents e) := by
 unfold putS
 rw [h]
 simp only [hk, dite_true]
structure Ans where
 code : Int
 fd : Int
 num : Int
 dir : Bool
 data : ByteArray
 names : List ByteArray
@[reducible] def ansV (a : Ans) (nv : Value) : Value := .agg #[.int .i64 a.code, .int .i64 a.fd, .int .i64 a.num, .bool a.dir, .string a.data, nv]
@[reducible] def ansC (code : Int) : Ans := ⟨code, 0, 0, false, ⟨#[]⟩, []⟩
def Oks (w0 w : World) (B : Nat) (c : Cal) (pk : Value) (v1 v2 v3 : Value) (ev : List Value) (x : Sta × Ans) (e : Ending) (w' : World) : Prop :=
 ∃ (z : Option Addr) (l k : Nat) (u1 u2 u3 : Value) (eu : List Value), e = .returned (ansV x.2 (.slice z l k)) ∧ Sr w' w.heap.size (.slice z l k) x.2.names ∧ (∀ b, (Value.slice z l k).ownBlock = some b → Off [b] u1 u2 u3 eu) ∧ Cb w0 w' B c pk u1 u2 u3 eu x.1 ∧ FrB B w w' v1 v2 v3 ev u1 u2 u3 eu
def Out (w0 w : World) (B : Nat) (c : Cal) (pk : Value) (v1 v2 v3 : Value) (ev : List Value) (S : Sta) (r : Except Int (Sta × Ans)) (e : Ending) (w' : World) : Prop := match r with
 | .error code => e = thr code ∧ ∃ u1 u2 u3 eu, Cb w0 w' B c pk u1 u2 u3 eu S ∧ FrB B w w' v1 v2 v3 ev u1 u2 u3 eu
 | .ok x => Oks w0 w B c pk v1 v2 v3 ev x e w'
theorem Out.err {w0 w : World} {B : Nat} {c : Cal} {pk v1 v2 v3 u1 u2 u3 : Value} {ev eu : List Value} {S : Sta} {r : Except Int (Sta × Ans)} {w' : World} {code : Int} (h : r = .error code) (k : Cb w0 w' B c pk u1 u2 u3 eu S) (f : FrB B w w' v1 v2 v3 ev u1 u2 u3 eu) : Out w0 w B c pk v1 v2 v3 ev S r (thr code) w' := by rw [h]; exact ⟨rfl, _, _, _, _, k, f⟩
theorem Out.val {w0 w : World} {B : Nat} {c : Cal} {pk v1 v2 v3 u1 u2 u3 : Value} {ev eu : List Value} {S S' : Sta} {r : Except Int (Sta × Ans)} {w' : World} {a : Ans} {v : Value} (h : r = .ok (S', a)) (hn : a.names = []) (hv : v = ansV a (.slice none 0 0)) (k : Cb w0 w' B c pk u1 u2 u3 eu S') (f : FrB B w w' v1 v2 v3 ev u1 u2 u3 eu) : Out w0 w B c pk v1 v2 v3 ev S r (.returned v) w' := by
 rw [h, hv]
 exact ⟨none, 0, 0, _, _, _, _, rfl, by rw [hn]; exact Sr.nil _ _, (fun b e => by cases e), k, f⟩
theorem boxR (w : World) (cs : Array Value) (t : TypeId) : ∃ W X, Hid (w.alloc (.cells cs t (0, 0)) = W ∧ w.heap.size = X) ∧ Hid (Kept [] w W) ∧ Hid (W.heap[X]? = some (.cells cs t (0, 0))) :=
 ⟨_, _, ⟨rfl, rfl⟩, (Kept.refl [] w).alloc _, Go.heap_alloc_new _ _⟩
@[reducible] def laidR (w : World) (R : Nat) (a b c d e f : Value) : World := (((((w.setCell ⟨R, 0, none⟩ a).setCell ⟨R, 1, none⟩ b).setCell ⟨R, 2, none⟩ c).setCell ⟨R, 3, none⟩ d).setCell ⟨R, 4, none⟩ e).setCell ⟨R, 5, none⟩ f
theorem block_res {w : World} {R : Nat} {T : TypeId} {c0 c1 c2 c3 c4 c5 : Value} (h : w.heap[R]? = some (.cells #[c0, c1, c2, c3, c4, c5] T (0, 0))) (a b c d e f : Value) : (laidR w R a b c d e f).heap[R]? = some (.cells #[a, b, c, d, e, f] T (0, 0)) := by
 unfold laidR
 rw [block_set (block_set (block_set (block_set (block_set (block_set h 0 _) 1 _) 2 _) 3 _) 4 _) 5 _]
 rfl
theorem Cb.res {w0 w : World} {B : Nat} {cl : Cal} {pk v1 v2 v3 : Value} {ev : List Value} {S : Sta} (h : Cb w0 w B cl pk v1 v2 v3 ev S) {R : Nat} (hR : w0.heap.size ≤ R) (ho : Off [R] v1 v2 v3 ev) (hB : R ≠ B) (a b c d e f : Value) : Cb w0 (laidR w R a b c d e f) B cl pk v1 v2 v3 ev S :=
 (((((h.beside hR ho hB a).beside hR ho hB b).beside hR ho hB c).beside hR ho hB d).beside hR ho hB e).beside hR ho hB f
theorem FrB.res {B : Nat} {w w' : World} {v1 v2 v3 u1 u2 u3 : Value} {ev eu : List Value} (h : FrB B w w' v1 v2 v3 ev u1 u2 u3 eu) {R : Nat} (hR : w.heap.size ≤ R) (a b c d e f : Value) : FrB B w (laidR w' R a b c d e f) v1 v2 v3 ev u1 u2 u3 eu :=
 (((((h.since hR a).since hR b).since hR c).since hR d).since hR e).since hR f
theorem heap_drew9 {w : World} : w.drew.heap = w.heap := rfl
theorem block_resd {w : World} {R : Nat} {T : TypeId} {c0 c1 c2 c3 c4 c5 : Value} (h : w.heap[R]? = some (.cells #[c0, c1, c2, c3, c4, c5] T (0, 0))) (a b c d e f : Value) : (laidR w R a b c d e f).drew.heap[R]? = some (.cells #[a, b, c, d, e, f] T (0, 0)) := by
 rw [heap_drew9]
 exact block_res h a b c d e f
theorem res_other {w : World} {R Z : Nat} {a b c d e f : Value} (h : Z ≠ R) : (laidR w R a b c d e f).heap[Z]? = w.heap[Z]? := by
 unfold laidR
 rw [block_other h, block_other h, block_other h, block_other h, block_other h, block_other h]
theorem Oks.laid {w0 w w5 w6 : World} {B : Nat} {c : Cal} {pk v1 v2 v3 u1 u2 u3 : Value} {ev eu : List Value} {S' : Sta} {A : Ans} {z : Option Addr} {l k : Nat} (hk : Kept [] w w5) {R : Nat} (hRl : w0.heap.size ≤ R) (hRw : w.heap.size ≤ R) (hR5 : R < w5.heap.size) (hRo : Off [R] v1 v2 v3 ev ∧ R ≠ B)
  (hsr : Sr w6 w5.heap.size (.slice z l k) A.names) (hof : ∀ b, (Value.slice z l k).ownBlock = some b → Off [b] u1 u2 u3 eu) (hcb : Cb w0 w6 B c pk u1 u2 u3 eu S') (hfr : FrB B w5 w6 v1 v2 v3 ev u1 u2 u3 eu) (a b d e f g : Value) :
  Oks w0 w B c pk v1 v2 v3 ev (S', A) (.returned (ansV A (.slice z l k))) (laidR w6 R a b d e f g) := by
 have h6 := hfr.2 R hR5 hRo.2 hRo.1
 refine ⟨z, l, k, u1, u2, u3, eu, rfl, ?_, hof, hcb.res hRl h6.2 hRo.2 _ _ _ _ _ _, FrB.res ((FrB.kept hk).trans hfr) hRw _ _ _ _ _ _⟩
 refine (hsr.same fun q hq => ?_).less hk.size
 have := (hsr.block q hq).1
 exact res_other (by omega)
theorem prg {w0 w : World} {B : Nat} {c : Cal} {pk v1 v2 v3 : Value} {ev : List Value} {S : Sta} (h : Cb w0 w B c pk v1 v2 v3 ev S) : ∃ W1 R, Hid (w.alloc (.cells #[.int .i64 0, .int .i64 0, .int .i64 0, .bool false, .string ⟨#[]⟩, .slice none 0 0] 31 (0, 0)) = W1 ∧ w.heap.size = R) ∧ Hid (Kept [] w W1) ∧ Hid (W1.heap[R]? = some (.cells #[.int .i64 0, .int .i64 0, .int .i64 0, .bool false, .string ⟨#[]⟩, .slice none 0 0] 31 (0, 0))) ∧ Hid (Cb w0 W1 B c pk v1 v2 v3 ev S) ∧ Hid (Off [R] v1 v2 v3 ev ∧ R ≠ B) ∧ Hid (w.heap.size ≤ R) ∧ Hid (w0.heap.size ≤ R) ∧
  ∃ p : Pl, v1 = .slice p.a1 S.ino.length p.c1 ∧ v2 = .slice p.a2 S.opn.length p.c2 ∧ v3 = .slice p.a3 S.made.length p.c3 ∧ Rd W1 B c pk p S ∧ (∀ x, p.a1 = some x → ∃ g, x = ⟨g, 0, none⟩) ∧ (∀ x, p.a3 = some x → ∃ g, x = ⟨g, 0, none⟩) ∧ Hid (Rd W1 B c pk p S) ∧ Hid (v1 = .slice p.a1 S.ino.length p.c1 ∧ v2 = .slice p.a2 S.opn.length p.c2 ∧ v3 = .slice p.a3 S.made.length p.c3 ∧ (∀ x, p.a1 = some x → ∃ g, x = ⟨g, 0, none⟩) ∧ (∀ x, p.a3 = some x → ∃ g, x = ⟨g, 0, none⟩)) := by
 obtain ⟨W1, R, HWR, HKR, HRb⟩ := boxR w #[.int .i64 0, .int .i64 0, .int .i64 0, .bool false, .string ⟨#[]⟩, .slice none 0 0] 31
 have HC1 : Hid (Cb w0 W1 B c pk v1 v2 v3 ev S) := h.kept HKR.out
 obtain ⟨p, e1, e2, e3, hrd, f1, f3⟩ := HC1.out.rd
 exact ⟨W1, R, HWR, HKR, HRb, HC1, h.new (Nat.le_of_eq HWR.out.2), Nat.le_of_eq HWR.out.2, by have := h.k.size; rw [← HWR.out.2]; exact this, p, e1, e2, e3, hrd, f1, f3, hrd, e1, e2, e3, f1, f3⟩
structure Sf (w wr : World) (g k j : Nat) (A : List Value) : Prop where
 kp : Kept [g] w wr
 here : ∃ C : List Value, wr.heap[g]? = some (.cells C.toArray 62 (0, 0)) ∧ C.length = A.length ∧ ∀ q, C[q]? = if k * 4 ≤ q ∧ q < (j - 1) * 4 then A[q + 4]? else A[q]?
theorem Sf.kept {w wr w' : World} {g k j : Nat} {A : List Value} (h : Sf w wr g k j A) (kk : Kept [] wr w') : Sf w w' g k j A := by
 obtain ⟨C, hC, h2, h3⟩ := h.here
 exact ⟨h.kp.trans kk (by simp), C, (kk.block g (lt_of_heap hC) (by simp)).trans hC, h2, h3⟩
theorem Sf.cell {w wr : World} {g k j : Nat} {A : List Value} (h : Sf w wr g k j A) {q : Nat} (hq : (j - 1) * 4 ≤ q) {v : Value} (hA : A[q]? = some v) : wr.cell? ⟨g, q, none⟩ = some v := by
 obtain ⟨C, hC, -, h3⟩ := h.here
 rw [cellB hC]
 have := h3 q
 rw [if_neg (by omega)] at this
 simpa [hA] using this
theorem Sf.frozen {w wr : World} {g k j : Nat} {A : List Value} (h : Sf w wr g k j A) (i : Nat) : wr.frozen? ⟨g, i, none⟩ = false := by
 obtain ⟨C, hC, -⟩ := h.here
 exact frozen_of hC i
@[reducible] def dropS (S : Sta) (k : Nat) : Sta := ⟨S.ino.eraseIdx k, S.opn, S.made⟩
def sweepS (S : Sta) (num : Int) : Sta := if linksR S.ino num = 0 ∧ (opP S.opn num).isSome = false then (match atR S.ino num with
 | none => S
 | some k => dropS S k) else S
theorem Bd.drop {S : Sta} (h : Bd S) (k : Nat) : Bd (dropS S k) := by
 have mem : ∀ y ∈ S.ino.eraseIdx k, y ∈ S.ino := fun y hy => List.mem_of_mem_eraseIdx hy
 refine ⟨Nat.le_trans (List.eraseIdx_sublist S.ino k).length_le h.n1, h.n2, h.n3, fun y hy => h.n4 y (mem y hy), fun y hy => h.w1 y (mem y hy), fun y hy => h.d1 y (mem y hy), fun y hy => h.e1 y (mem y hy)⟩
theorem Bd.setEnt {S : Sta} (h : Bd S) {k : Nat} (hk : k < S.ino.length) {E : List En} (hl : E.length ≤ 5864062014634) (he : ∀ e ∈ E, e.1.size ≤ 140737488351232) : Bd (setE S k hk E) := by
 have mem : ∀ y ∈ S.ino.set k (withE (S.ino[k]) E), (∃ x ∈ S.ino, y.num = x.num ∧ y.data = x.data) ∧ (y ∈ S.ino ∨ y.ents = E) := fun y hy => by
  rcases List.mem_or_eq_of_mem_set hy with h1 | h1
  · exact ⟨⟨y, h1, rfl, rfl⟩, Or.inl h1⟩
  ·
   subst h1
   exact ⟨⟨_, List.getElem_mem hk, rfl, rfl⟩, Or.inr rfl⟩
 refine ⟨by simpa using h.n1, h.n2, h.n3, fun y hy => ?_, fun y hy => ?_, fun y hy => ?_, fun y hy => ?_⟩
 ·
  rcases (mem y hy).2 with h1 | h1
  · exact h.n4 y h1
  · rw [h1]; exact hl
 ·
  obtain ⟨⟨x, hx, e, -⟩, -⟩ := mem y hy
  rw [e]; exact h.w1 x hx
 ·
  obtain ⟨⟨x, hx, -, e⟩, -⟩ := mem y hy
  rw [e]; exact h.d1 x hx
 ·
  rcases (mem y hy).2 with h1 | h1
  · exact h.e1 y h1
  · rw [h1]; exact he
def createR (S : Sta) (c : Cal) (i : Nat) (dir : Bool) : Except Int (Sta × Ans) := match spotR S.ino c.path with
 | .error code => .error code
 | .ok (d, t) =>
  if (plR (entsOf S.ino d) t).isSome then .error 2 else
  if 4 ≤ nFull (entsOf S.ino d) d t 0 ⟨#[]⟩ ∨ 32 ≤ S.made.getD i 0 then .error 5 else
  .ok (putS ⟨insR ltI S.ino ⟨2 + c.core + 8 * S.made.getD i 0, dir, [], ⟨#[]⟩⟩, S.opn, S.made.set i (S.made.getD i 0 + 1)⟩ d (t, 2 + c.core + 8 * S.made.getD i 0), ansC 0)
structure Fit (S : Sta) (c : Cal) (i : Nat) : Prop where
 clo : Clo S.ino
 ia : adj ltI S.ino = true
 ea : ∀ x ∈ S.ino, adj ltE x.ents = true
 ci : c.core = (i : Int)
 i8 : i < 8
 il : i < S.made.length
 mg : ∀ g ∈ S.made, 0 ≤ g ∧ g ≤ 32
 fr : ∀ x ∈ S.ino, x.num ≠ 2 + c.core + 8 * S.made.getD i 0
 nl : S.ino.length < 2513169434843
theorem p_create {w0 w : World} {B : Nat} {c : Cal} {pk v1 v2 v3 : Value} {ev : List Value} {S : Sta} (h : Cb w0 w B c pk v1 v2 v3 ev S) {i : Nat} (hf : Fit S c i) (dir : Bool) (hbd : ∀ S' v, createR S c i dir = .ok (S', v) → Bd S') :
  Calls Tryz.prog 103 #[.pointer (some ⟨B, 0, none⟩), .bool dir] w (Out w0 w B c pk v1 v2 v3 ev S (createR S c i dir)) := by
 obtain ⟨W1, R, HWR, HKR, HRb⟩ := boxR w #[.int .i64 0, .int .i64 0, .int .i64 0, .bool false, .string ⟨#[]⟩, .slice none 0 0] 31
 have HC1 : Hid (Cb w0 W1 B c pk v1 v2 v3 ev S) := h.kept HKR.out
 have HFit : Hid (Fit S c i) := hf
 have HBd : Hid (∀ S' v, createR S c i dir = .ok (S', v) → Bd S') := hbd
 have HDef : Hid (createR S c i dir = match spotR S.ino c.path with
 | .error code => .error code
 | .ok (d, t) =>
  if (plR (entsOf S.ino d) t).isSome then .error 2 else
  if 4 ≤ nFull (entsOf S.ino d) d t 0 ⟨#[]⟩ ∨ 32 ≤ S.made.getD i 0 then .error 5 else
  .ok (putS ⟨insR ltI S.ino ⟨2 + c.core + 8 * S.made.getD i 0, dir, [], ⟨#[]⟩⟩, S.opn, S.made.set i (S.made.getD i 0 + 1)⟩ d (t, 2 + c.core + 8 * S.made.getD i 0), ansC 0)) := rfl
 have HRo : Hid (Off [R] v1 v2 v3 ev ∧ R ≠ B) := h.new (Nat.le_of_eq HWR.out.2)
 have HRw : Hid (w.heap.size ≤ R) := Nat.le_of_eq HWR.out.2
 have HRl : Hid (w0.heap.size ≤ R) := by have := h.k.size; rw [← HWR.out.2]; exact this
 obtain ⟨p, e1, e2, e3, hrd, f1, f3⟩ := HC1.out.rd
 have HR : Hid (Rd W1 B c pk p S) := hrd
 have HV : Hid (v1 = .slice p.a1 S.ino.length p.c1 ∧ v2 = .slice p.a2 S.opn.length p.c2 ∧ v3 = .slice p.a3 S.made.length p.c3 ∧ (∀ x, p.a1 = some x → ∃ g, x = ⟨g, 0, none⟩) ∧ (∀ x, p.a3 = some x → ∃ g, x = ⟨g, 0, none⟩)) := ⟨e1, e2, e3, f1, f3⟩
 obtain ⟨r, hr⟩ : ∃ r, createR S c i dir = r := ⟨_, rfl⟩
 rw [hr] at HDef HBd ⊢
 have d5 := hrd.c5
 clear h hf hbd e1 e2 e3 f1 f3 hrd hr
 go_enter Tryz.func103, Tryz.ntmps103
 go_upto_region 1 with fail
 rw [HWR.out.1, HWR.out.2]
 clear HWR
 go_wp2_with fail
 refine (p_spot HR.out HFit.out.clo c.path).mono ?_
 rintro e w1 ⟨hret, k1⟩
 have HC2 : Hid (_) := HC1.out.kept k1
 have HR1 : Hid (_) := HR.out.kept k1
 have HKw1 : Hid (Kept [] w w1) := HKR.out.trans k1 (by simp)
 have HRb1 : Hid (_) := (k1.block _ (lt_of_heap HRb.out) (by simp)).trans HRb.out
 rcases hs : spotR S.ino c.path with code | ⟨d, t⟩
 ·
  rw [hs] at HDef
  have : e = thr code := by unfold spotV at hret; rw [hs] at hret; exact hret
  subst this
  exact ⟨rfl, Out.err HDef.out HC2.out (FrB.kept HKw1.out)⟩
 have hee : e = .returned (.agg #[.int .i64 d, .string t]) := by unfold spotV at hret; rw [hs] at hret; exact hret
 subst hee
 rw [hs] at HDef
 obtain ⟨k, hk, hat, -, hdir⟩ := dir_at (spot_dir hs)
 have HAt : Hid (atR S.ino d = some k) := hat
 have hE := ents_at hat hk
 obtain ⟨gv, hgv⟩ : ∃ gv, S.made.getD i 0 = gv := ⟨_, rfl⟩
 have HD : Hid (r = if (plR (S.ino[k]).ents t).isSome then .error 2 else
  if 4 ≤ nFull (S.ino[k]).ents d t 0 ⟨#[]⟩ ∨ 32 ≤ gv then .error 5 else
  .ok (putS ⟨insR ltI S.ino ⟨2 + c.core + 8 * gv, dir, [], ⟨#[]⟩⟩, S.opn, S.made.set i (gv + 1)⟩ d (t, 2 + c.core + 8 * gv), ansC 0)) := by
  show _ = _
  rw [← hE, ← hgv]
  exact HDef.out
 have HG : Hid (S.made.getD i 0 = gv) := hgv
 clear hs hret hat hdir hE hgv HDef k1 d5 HKR HC1 HR HRb
 obtain ⟨W2, Q, HWQ, HKQ, q0, q1⟩ := box2 w1 (.int .i64 d) (.string t) 147
 have HQb : Hid (W2.heap[Q]? = some (.cells #[.int .i64 d, .string t] 147 (0, 0)) ∧ w1.heap.size ≤ Q) := by
  rw [← HWQ.out.1, ← HWQ.out.2]; exact ⟨Go.heap_alloc_new _ _, Nat.le_refl _⟩
 go_upto_region 2 with fail
 rw [HWQ.out.1, HWQ.out.2]
 clear HWQ
 have HR2 : Hid (_) := HR1.out.kept HKQ.out
 obtain ⟨b1, o1, ae, ce, ha, -⟩ := HR2.out.sv.ino k hk
 have HA1 : Hid (p.a1 = some ⟨b1, o1, none⟩) := ha
 clear ha
 rcases hpl : plR (S.ino[k]).ents t with _ | n
 rotate_left
 ·
  obtain ⟨hn, -⟩ := idx_get hpl
  have hsome := HFit.out.clo.ent k hk _ (List.getElem_mem hn)
  rcases hat2 : atR S.ino ((S.ino[k]).ents[n]).2 with _ | j
  · rw [hat2] at hsome; cases hsome
  have HE : Hid (r = .error 2) := by show _ = _; rw [HD.out, hpl]; rfl
  have HP : Hid (plR (S.ino[k]).ents t = some n ∧ ∃ hi : n < (S.ino[k]).ents.length, atR S.ino ((S.ino[k]).ents[n]).2 = some j) := ⟨hpl, hn, hat2⟩
  clear HD hsome hat2 hpl
  go_wp2_with fail
  refine (p_at_some HR2.out d t HAt.out hk HP.out HA1.out).mono ?_
  rintro e w2 ⟨rfl, k2⟩
  have HK2 : Hid (_) := (HC2.out.kept HKQ.out).kept k2
  have HKw2 : Hid (_) := (HKw1.out.trans HKQ.out (by simp)).trans k2 (by simp)
  clear k2 q0 q1
  go_wp2_with fail
  refine (p_if 2 (by decide) w2).mono ?_
  rintro e w3 ⟨rfl, hw⟩
  subst hw
  exact ⟨rfl, Out.err HE.out HK2.out (FrB.kept HKw2.out)⟩
 have HP : Hid (plR (S.ino[k]).ents t = none) := hpl
 rw [hpl, if_neg (by simp)] at HD
 clear hpl
 go_wp2_with fail
 refine (p_at_none HR2.out d t HAt.out hk HP.out).mono ?_
 rintro e w2 ⟨rfl, k2⟩
 have HC3 : Hid (_) := (HC2.out.kept HKQ.out).kept k2
 have HKw2 : Hid (_) := (HKw1.out.trans HKQ.out (by simp)).trans k2 (by simp)
 have HR3 : Hid (_) := HR2.out.kept k2
 have HRb2 : Hid (_) := ((HKQ.out.trans k2 (by simp)).block _ (lt_of_heap HRb1.out) (by simp)).trans HRb1.out
 have HQ2 : Hid (_) := (k2.block _ (lt_of_heap HQb.out.1) (by simp)).trans HQb.out.1
 have HQo : Hid (Off [Q] v1 v2 v3 ev ∧ Q ≠ B) := HC2.out.new HQb.out.2
 clear k2 q0 q1 HKQ HQb HR2 HR1 HRb1
 go_wp2_with fail
 refine (p_if_no 2 w2).mono ?_
 rintro e w3 ⟨rfl, hw⟩
 subst hw
 -- the number that was given last
 have hil := HFit.out.il
 have hgl : S.made[i]'hil = gv := by rw [← HG.out, List.getD_eq_getElem?_getD, List.getElem?_eq_getElem hil]; rfl
 obtain ⟨g3, o3, ha3, hc3⟩ := HR3.out.sv.mad i hil
 have ho3 : o3 = 0 := by
  obtain ⟨g, hg⟩ := HV.out.2.2.2.2 _ ha3
  simp only [Addr.mk.injEq, and_true] at hg
  exact hg.2
 subst ho3
 have HA3 : Hid (p.a3 = some ⟨g3, 0, none⟩) := ha3
 rw [hgl, Nat.zero_add] at hc3
 have hgv2 := HFit.out.mg _ (List.getElem_mem hil)
 rw [hgl] at hgv2
 obtain ⟨hg0, hg1⟩ := hgv2
 have d1 : w3.cell? ⟨B, 1, none⟩ = some (.int .i64 (i : Int)) := by rw [← HFit.out.ci]; exact HR3.out.c1
 have d10 : w3.cell? ⟨B, 10, none⟩ = some (.slice (some ⟨g3, 0, none⟩) S.made.length p.c3) := by rw [← ha3]; exact HR3.out.c10
 have HC : Hid (w3.cell? ⟨B, 1, none⟩ = some (.int .i64 (i : Int)) ∧ w3.cell? ⟨B, 10, none⟩ = some (.slice (some ⟨g3, 0, none⟩) S.made.length p.c3) ∧ w3.cell? ⟨g3, i, none⟩ = some (.int .i64 gv)) := ⟨d1, d10, hc3⟩
 have i1 : (i : Int) < (S.made.length : Int) := by omega
 have i2 : (0 : Int) ≤ (i : Int) := by omega
 have i3 : (i : Int).toNat = i := by omega
 clear hgl ha3 d1 d10 hc3
 go_upto_region 3 with fail
 go_region_held3 (fun w' => w'.cell? ⟨B, 1, none⟩ = some (.int .i64 (i : Int)) ∧ w'.cell? ⟨B, 10, none⟩ = some (.slice (some ⟨g3, 0, none⟩) S.made.length p.c3) ∧ w'.cell? ⟨g3, i, none⟩ = some (.int .i64 gv)) (first | exact HC.out | go_keep) (fail)
 have HKd : Hid (Kept [] w3 w3.drew) := (Kept.refl _ _).drew
 obtain ⟨W4, hW4⟩ : ∃ W4, w3.drew = W4 := ⟨_, rfl⟩
 rw [hW4] at HKd ⊢
 have HC4 : Hid (_) := HC3.out.kept HKd.out
 have HKw4 : Hid (_) := HKw2.out.trans HKd.out (by simp)
 have HR4 : Hid (_) := HR3.out.kept HKd.out
 have HRb4 : Hid (_) := (HKd.out.block _ (lt_of_heap HRb2.out) (by simp)).trans HRb2.out
 have HQ4 : Hid (_) := (HKd.out.block _ (lt_of_heap HQ2.out) (by simp)).trans HQ2.out
 have HG4 : Hid (W4.cell? ⟨g3, i, none⟩ = some (.int .i64 gv)) := HKd.out.cell HC.out.2.2 (by simp)
 have q0 : W4.cell? ⟨Q, 0, none⟩ = some (.int .i64 d) := cellB HQ4.out
 have q1 : W4.cell? ⟨Q, 1, none⟩ = some (.string t) := cellB HQ4.out
 clear hW4 HC HC3 HR3 HRb2 HQ2
 go_wp2_with fail
 refine (p_full HR4.out d t 0 ⟨#[]⟩ HAt.out hk).mono ?_
 rintro e w5 ⟨rfl, k5⟩
 have HC5 : Hid (_) := HC4.out.kept k5
 have HKw5 : Hid (_) := HKw4.out.trans k5 (by simp)
 have HR5 : Hid (_) := HR4.out.kept k5
 have HRb5 : Hid (_) := (k5.block _ (lt_of_heap HRb4.out) (by simp)).trans HRb4.out
 have HQ5 : Hid (_) := (k5.block _ (lt_of_heap HQ4.out) (by simp)).trans HQ4.out
 have HG5 : Hid (w5.cell? ⟨g3, i, none⟩ = some (.int .i64 gv)) := k5.cell HG4.out (by simp)
 obtain ⟨nf, hnf⟩ : ∃ nf, nFull (S.ino[k]).ents d t 0 ⟨#[]⟩ = nf := ⟨_, rfl⟩
 rw [hnf] at HD ⊢
 clear hnf k5 q0 q1 HKd HC4 HR4 HRb4 HQ4 HG4
 by_cases c1 : 4 ≤ nf
 ·
  have HE : Hid (r = .error 5) := by show _ = _; rw [HD.out, if_pos (Or.inl c1)]
  rw [decide_eq_true c1]
  clear HD c1
  go_wp2_with fail
  refine (p_if 5 (by decide) w5).mono ?_
  rintro e w6 ⟨rfl, hw⟩
  subst hw
  exact ⟨rfl, Out.err HE.out HC5.out (FrB.kept HKw5.out)⟩
 rw [decide_eq_false c1]
 by_cases c2 : 32 ≤ gv
 ·
  have HE : Hid (r = .error 5) := by show _ = _; rw [HD.out, if_pos (Or.inr c2)]
  have c3 : decide (gv ≥ 32) = true := decide_eq_true c2
  clear HD c1
  go_wp2_with fail
  refine (p_if 5 (by decide) w5).mono ?_
  rintro e w6 ⟨rfl, hw⟩
  subst hw
  exact ⟨rfl, Out.err HE.out HC5.out (FrB.kept HKw5.out)⟩
 rw [if_neg (fun h => h.elim c1 c2)] at HD
 have c3 : decide (gv ≥ 32) = false := decide_eq_false c2
 clear c1
 go_wp2_with fail
 refine (p_if_no 5 w5).mono ?_
 rintro e w6 ⟨rfl, hw⟩
 subst hw
 have d1 : w6.cell? ⟨B, 1, none⟩ = some (.int .i64 (i : Int)) := by rw [← HFit.out.ci]; exact HR5.out.c1
 have d10 : w6.cell? ⟨B, 10, none⟩ = some (.slice (some ⟨g3, 0, none⟩) S.made.length p.c3) := by rw [← HA3.out]; exact HR5.out.c10
 have HI8 : Hid (i < 8) := HFit.out.i8
 go_wp2_with fail
 refine (p_numof (i : Int) gv w6 (by have := HI8.out; omega) ⟨hg0, hg1⟩).mono ?_
 rintro e w7 ⟨rfl, hw⟩
 subst hw
 obtain ⟨num, hnum⟩ : ∃ num : Int, 2 + (i : Int) + 8 * gv = num := ⟨_, rfl⟩
 have HNum : Hid (2 + c.core + 8 * gv = num ∧ 0 ≤ num ∧ num ≤ 9223372036854775807) := by
  have := HI8.out
  have := HFit.out.ci
  exact ⟨by omega, by omega, by omega⟩
 rw [HNum.out.1] at HD
 rw [hnum]
 clear hnum
 have HS6 : Hid (w7.cell? ⟨B, 1, none⟩ = some (.int .i64 (i : Int)) ∧ w7.cell? ⟨B, 10, none⟩ = some (.slice (some ⟨g3, 0, none⟩) S.made.length p.c3)) := ⟨d1, d10⟩
 have HG7 : Hid (v3 = .slice (some ⟨g3, 0, none⟩) S.made.length p.c3) := by show _ = _; rw [HV.out.2.2.1, HA3.out]
 have HBg : Hid (B ≠ g3) := fun e => (HC5.out.off B (by simp)).2.2.1 (by rw [HG7.out, e]; rfl)
 have gc : w7.cell? ⟨g3, i, none⟩ = some (.int .i64 gv) := HG5.out
 have gcd : w7.drew.cell? ⟨g3, i, none⟩ = some (.int .i64 gv) := HG5.out
 have gf : w7.frozen? ⟨g3, i, none⟩ = false := by
  have := HC5.out.os.mad
  rw [HG7.out] at this
  exact this.frozenAt _
 have gfd : w7.drew.frozen? ⟨g3, i, none⟩ = false := gf
 have HSt : Hid (∀ (W : World) (v : Value), (W.cell? ⟨B, 1, none⟩ = some (.int .i64 (i : Int)) ∧ W.cell? ⟨B, 10, none⟩ = some (.slice (some ⟨g3, 0, none⟩) S.made.length p.c3)) → ((W.setCell ⟨g3, i, none⟩ v).cell? ⟨B, 1, none⟩ = some (.int .i64 (i : Int)) ∧ (W.setCell ⟨g3, i, none⟩ v).cell? ⟨B, 10, none⟩ = some (.slice (some ⟨g3, 0, none⟩) S.made.length p.c3))) := fun W v hW => by
  rw [cellO HBg.out, cellO HBg.out]; exact hW
 have v1' : wrap64 (gv + 1) = gv + 1 := by unfold wrap64; omega
 have v2' : IntKind.i64.wrap (gv + 1) = gv + 1 := by rw [IntKind.wrap_i64]; omega
 clear d1 d10
 go_upto_region 6 with fail
 refine wp_region_held_drew (S := fun w' => w'.cell? ⟨B, 1, none⟩ = some (.int .i64 (i : Int)) ∧ w'.cell? ⟨B, 10, none⟩ = some (.slice (some ⟨g3, 0, none⟩) S.made.length p.c3)) (by kernel_rfl) ?_ (fun hHeld => ?_)
 · exact HS6.out
 refine tkA 0 rfl ?_
 refine tkA 1 rfl ?_
 refine tkA 2 rfl ?_
 refine tkA 3 rfl ?_
 refine tkA 4 rfl ?_
 refine tkA 5 rfl ?_
 refine tkA 6 rfl ?_
 refine tkA 7 rfl ?_
 refine tkA 8 rfl ?_
 refine tkA 9 rfl ?_
 refine tkA 10 rfl ?_
 refine wpAnyH_ready (rs := [11]) (by kernel_rfl) (by simp) ?_
 refine AllReadyH.cons rfl (fun K hK => ?_) AllReadyH.nil
 go_simp
 refine hK.out _ _ ?_ (fun hHeld => ?_)
 · exact hHeld
 clear hK K
 try simp only [Act.put, List.setIfInBounds_toArray, List.set_cons_zero, List.set_cons_succ, List.getElem_toArray, List.getElem_cons_zero, List.getElem_cons_succ]
 refine tkA 12 rfl ?_
 refine tkA 13 rfl ?_
 refine wpAnyH_ready (rs := [14]) (by kernel_rfl) (by simp) ?_
 refine AllReadyH.cons rfl (fun K hK => ?_) AllReadyH.nil
 go_simp
 refine hK.out _ _ ?_ (fun hHeld => ?_)
 · exact HSt.out _ _ hHeld
 clear hK K
 try simp only [Act.put, List.setIfInBounds_toArray, List.set_cons_zero, List.set_cons_succ, List.getElem_toArray, List.getElem_cons_zero, List.getElem_cons_succ]
 refine wpAnyH_done (by kernel_rfl) ?_ _
 obtain ⟨x, hx⟩ : ∃ x : Ino, (⟨num, dir, [], ⟨#[]⟩⟩ : Ino) = x := ⟨_, rfl⟩
 have HX : Hid (x.num = num ∧ x.dir = dir ∧ x.ents = [] ∧ x.data = ⟨#[]⟩) := by rw [← hx]; exact ⟨rfl, rfl, rfl, rfl⟩
 rw [hx] at HD
 clear hx
 have HRg : Hid (R ≠ g3 ∧ Q ≠ g3) := ⟨fun e => (HRo.out.1 R (by simp)).2.2.1 (by rw [HG7.out, e]; rfl), fun e => (HQo.out.1 Q (by simp)).2.2.1 (by rw [HG7.out, e]; rfl)⟩
 have HC8 : Hid (Cb w0 (w7.setCell ⟨g3, i, none⟩ (.int .i64 (gv + 1))).drew B c pk v1 v2 v3 ev ⟨S.ino, S.opn, S.made.set i (gv + 1)⟩) := (HC5.out.setMade HG7.out (gv + 1)).kept (Kept.refl _ _).drew
 have HRb8 : Hid ((w7.setCell ⟨g3, i, none⟩ (.int .i64 (gv + 1))).drew.heap[R]? = _) := (block_other HRg.out.1).trans HRb5.out
 have HQ8 : Hid ((w7.setCell ⟨g3, i, none⟩ (.int .i64 (gv + 1))).drew.heap[Q]? = _) := (block_other HRg.out.2).trans HQ5.out
 have HHs : Hid (w0.heap.size ≤ (w7.setCell ⟨g3, i, none⟩ (.int .i64 (gv + 1))).drew.heap.size) := HC8.out.k.size
 have HF8 : Hid (FrB B w (w7.setCell ⟨g3, i, none⟩ (.int .i64 (gv + 1))).drew v1 v2 v3 ev v1 v2 v3 ev) := ((FrB.kept HKw5.out).trans (FrB.made HG7.out _)).trans (FrB.kept (Kept.refl _ _).drew)
 obtain ⟨W8, hW8⟩ : ∃ W8, (w7.setCell ⟨g3, i, none⟩ (.int .i64 (gv + 1))).drew = W8 := ⟨_, rfl⟩
 rw [hW8] at HC8 HRb8 HQ8 HHs HF8 ⊢
 have d8 : W8.cell? ⟨B, 8, none⟩ = some (.slice p.a1 S.ino.length p.c1) := by rw [← HV.out.1]; exact cellB HC8.out.box
 have HPI : Hid (Calls Tryz.prog 132 #[.slice p.a1 S.ino.length p.c1, .agg #[.int .i64 num, .bool dir, .slice none 0 0, .string ⟨#[]⟩], .func (.func 51) #[] #[]] W8 (InsR w0.heap.size 62 4 v1 (S.ino.length + 1) (inoC (insR ltI S.ino x) (ev.take (whereR ltI S.ino x) ++ .slice none 0 0 :: ev.drop (whereR ltI S.ino x))) W8)) := by
  have := put_ino HC8.out.os.evl (fun i hi hv => row_ents (HC8.out.os.ent i hi hv)) HC8.out.os.ino HHs.out HC8.out.bd.n1 HFit.out.ia x
  rw [HX.out.1, HX.out.2.1, HX.out.2.2.2, HV.out.1] at this
  rw [HV.out.1]
  exact this
 clear hW8 hHeld HSt HS6 gc gcd gf gfd v1' v2' HR5 HG5 HRb5 HQ5 HC5
 go_wp2_with fail
 refine HPI.out.mono ?_
 rintro e w9 ⟨v', rfl, r9, k9, h9⟩
 obtain ⟨a9, c9, hv9, -⟩ := row_form r9
 have hB9 := (beside_putIno (v2 := v2) (v3 := v3) (ev := ev) (q := whereR ltI S.ino x) (B := B) k9 h9 v' (lt_of_heap HRb8.out) HRo.out.1 HRo.out.2)
 have hQ9 := (beside_putIno (v2 := v2) (v3 := v3) (ev := ev) (q := whereR ltI S.ino x) (B := B) k9 h9 v' (lt_of_heap HQ8.out) HQo.out.1 HQo.out.2)
 have hBb : B ∉ v1.ownBlock.toList := fun hm => by
  rw [Option.mem_toList] at hm
  exact (HC8.out.off B (by simp)).1 hm
 have hbx : w9.heap[B]? = _ := (k9.block B (lt_of_heap HC8.out.box) hBb).trans HC8.out.box
 have d9 : w9.cell? ⟨B, 8, none⟩ = some (.slice p.a1 S.ino.length p.c1) := by rw [← HV.out.1]; exact cellB hbx
 have f9 := frozen_of hbx 8
 have HC9 : Hid (Cb w0 (w9.setCell ⟨B, 8, none⟩ v') B c pk v' v2 v3 (ev.take (whereR ltI S.ino x) ++ .slice none 0 0 :: ev.drop (whereR ltI S.ino x)) ⟨insR ltI S.ino x, S.opn, S.made.set i (gv + 1)⟩) := HC8.out.putIno HX.out.2.2.1 r9 k9 h9 (HC8.out.bd.putIno HFit.out.nl HX.out.2.2.1 HX.out.2.2.2 (by rw [HX.out.1]; exact HNum.out.2.2))
 have HF9 : Hid (FrB B w (w9.setCell ⟨B, 8, none⟩ v') v1 v2 v3 ev v' v2 v3 (ev.take (whereR ltI S.ino x) ++ .slice none 0 0 :: ev.drop (whereR ltI S.ino x))) := HF8.out.trans (FrB.putIno k9 h9 v')
 have HRb9 : Hid ((w9.setCell ⟨B, 8, none⟩ v').heap[R]? = _) := hB9.1.trans HRb8.out
 have HQ9 : Hid ((w9.setCell ⟨B, 8, none⟩ v').heap[Q]? = _) := hQ9.1.trans HQ8.out
 have HRo9 : Hid (Off [R] v' v2 v3 (ev.take (whereR ltI S.ino x) ++ .slice none 0 0 :: ev.drop (whereR ltI S.ino x))) := hB9.2
 subst hv9
 obtain ⟨ev9, hev9⟩ : ∃ ev9, ev.take (whereR ltI S.ino x) ++ .slice none 0 0 :: ev.drop (whereR ltI S.ino x) = ev9 := ⟨_, rfl⟩
 rw [hev9] at HC9 HRo9 HF9
 clear r9 k9 h9 hB9 hQ9 hBb hbx hev9 d8
 go_upto_region 8 with fail
 obtain ⟨W9, hW9⟩ : ∃ W9, w9.setCell ⟨B, 8, none⟩ (.slice a9 (S.ino.length + 1) c9) = W9 := ⟨_, rfl⟩
 rw [hW9] at HC9 HRb9 HQ9 HF9 ⊢
 clear hW9 d9 f9
 have q0 : W9.cell? ⟨Q, 0, none⟩ = some (.int .i64 d) := cellB HQ9.out
 have q1 : W9.cell? ⟨Q, 1, none⟩ = some (.string t) := cellB HQ9.out
 have hxd : x.num ≠ d := by
  obtain ⟨hk', hn⟩ := at_get HAt.out
  have := HFit.out.fr _ (List.getElem_mem hk')
  rw [hn, HG.out, HNum.out.1, ← HX.out.1] at this
  exact Ne.symm this
 obtain ⟨j, hj1, hj, hj2⟩ := at_ins HAt.out hxd hk
 have HPS : Hid (r = .ok (setE ⟨insR ltI S.ino x, S.opn, S.made.set i (gv + 1)⟩ j hj (insR ltE ((insR ltI S.ino x)[j]).ents (t, num)), ansC 0)) := by
  show _ = _
  rw [HD.out, putS_at (S := ⟨insR ltI S.ino x, S.opn, S.made.set i (gv + 1)⟩) hj1 hj]
 have HPut : Hid (Calls Tryz.prog 133 #[.pointer (some ⟨B, 0, none⟩), .agg #[.int .i64 d, .string t], .int .i64 num] W9 fun e w' => e = .returned (.tuple #[]) ∧ ∃ ev', Cb w0 w' B c pk (.slice a9 (S.ino.length + 1) c9) v2 v3 ev' (setE ⟨insR ltI S.ino x, S.opn, S.made.set i (gv + 1)⟩ j hj (insR ltE ((insR ltI S.ino x)[j]).ents (t, num))) ∧ Frm W9 w' (.slice a9 (S.ino.length + 1) c9) v2 v3 ev9 (.slice a9 (S.ino.length + 1) c9) v2 v3 ev') := p_put HC9.out d t num hj1 hj (by show adj ltE ((insR ltI S.ino x)[j]).ents = true; rw [hj2]; exact HFit.out.ea _ (List.getElem_mem hk)) (HBd.out _ _ HPS.out)
 clear hj1 hj2 hxd HD HBd
 go_wp2_with fail
 refine HPut.out.mono ?_
 rintro e w10 ⟨rfl, ev10, hcb, hfr⟩
 have h10 := hfr.2 R (lt_of_heap HRb9.out) HRo9.out
 have hb10 : w10.heap[R]? = _ := h10.1.trans HRb9.out
 have HC10 : Hid (_) := hcb
 have HF10 : Hid (_) := HF9.out.trans hfr.frb
 have HO10 : Hid (_) := h10.2
 obtain ⟨g0, g1, g2, g3', g4, g5⟩ := cz6 hb10
 obtain ⟨z0, z1, z2, z3, z4, z5⟩ := fz6 hb10
 have HB10 : Hid (_) := hb10
 clear hcb hfr h10 hb10 q0 q1
 go_wp2_with fail
 (try simp only [Exit.inBlock, Exit.then])
 refine bodyPost_ret (results_cell_row rfl _ _ R 31 #[.int .i64 0, .int .i64 0, .int .i64 0, .bool false, .string ⟨#[]⟩, .slice none 0 0] (0, 0) _ rfl (block_res HB10.out _ _ _ _ _ _) Tryz.underlying31 rfl (by kernel_rfl)) rfl ?_
 exact Out.val HPS.out rfl rfl (HC10.out.res HRl.out HO10.out HRo.out.2 _ _ _ _ _ _) (FrB.res HF10.out HRw.out _ _ _ _ _ _)
end Go.Proofs.YtffncojcnbhblaaGreatDoor
