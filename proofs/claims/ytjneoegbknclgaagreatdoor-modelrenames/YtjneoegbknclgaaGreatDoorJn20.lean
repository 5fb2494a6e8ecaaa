/-
  Joined of my texts An Dl.
-/
import Derived.Test.YtjneoegbknclgaaGreatDoorJn19
import Derived.Test.YtjneoegbknclgaaGreatDoorTk
set_option linter.unusedVariables false
set_option linter.unusedSimpArgs false
set_option maxRecDepth 100000
set_option maxHeartbeats 8000000
namespace Go.Proofs.YtjneoegbknclgaaGreatDoor
open List renaming setIfInBounds_toArray → lz0, set_cons_zero → lz1, set_cons_succ → lz2, getElem_toArray → lz3, getElem_cons_zero → lz4, getElem_cons_succ → lz5
open Go.RowKit
def putS (S : Sta) (d : Int) (e : En) : Sta := match atR S.ino d with
 | none => S
 | some k => if hk : k < S.ino.length then setE S k hk (insR ltE (S.ino[k]).ents e) else S
theorem putS_at {S : Sta} {d : Int} {e : En} {k : Nat} (h : atR S.ino d = some k) (hk : k < S.ino.length) : putS S d e = setE S k hk (insR ltE (S.ino[k]).ents e) := by
 unfold putS
 rw [h]
 simp only [hk, dite_true]
structure Ans where
 code : Int
 fd : Int
 num : Int
 dir : Bool
 data : ByteArray
 names : List ByteArray
@[reducible] def ansV (a : Ans) (nv : Value) : Value := .agg #[.int .i64 a.code, .int .i64 a.fd, .int .i64 a.num, .bool a.dir, .string a.data, nv]
@[reducible] def ansC (code : Int) : Ans := ⟨code, 0, 0, false, ⟨#[]⟩, []⟩
def Oks (w0 w : World) (B : Nat) (c : Cal) (pk : Value) (v1 v2 v3 : Value) (ev : List Value) (x : Sta × Ans) (e : Ending) (w' : World) : Prop :=
 ∃ (z : Option Addr) (l k : Nat) (u1 u2 u3 : Value) (eu : List Value), e = .returned (ansV x.2 (.slice z l k)) ∧ Sr w' w.heap.size (.slice z l k) x.2.names ∧ (∀ b, (Value.slice z l k).ownBlock = some b → Off [b] u1 u2 u3 eu) ∧ Cb w0 w' B c pk u1 u2 u3 eu x.1 ∧ FrB B w w' v1 v2 v3 ev u1 u2 u3 eu
def Out (w0 w : World) (B : Nat) (c : Cal) (pk : Value) (v1 v2 v3 : Value) (ev : List Value) (S : Sta) (r : Except Int (Sta × Ans)) (e : Ending) (w' : World) : Prop := match r with
 | .error code => e = thr code ∧ ∃ u1 u2 u3 eu, Cb w0 w' B c pk u1 u2 u3 eu S ∧ FrB B w w' v1 v2 v3 ev u1 u2 u3 eu
 | .ok x => Oks w0 w B c pk v1 v2 v3 ev x e w'
theorem Out.err {w0 w : World} {B : Nat} {c : Cal} {pk v1 v2 v3 u1 u2 u3 : Value} {ev eu : List Value} {S : Sta} {r : Except Int (Sta × Ans)} {w' : World} {code : Int} (h : r = .error code) (k : Cb w0 w' B c pk u1 u2 u3 eu S) (f : FrB B w w' v1 v2 v3 ev u1 u2 u3 eu) : Out w0 w B c pk v1 v2 v3 ev S r (thr code) w' := by rw [h]; exact ⟨rfl, _, _, _, _, k, f⟩
theorem Out.val {w0 w : World} {B : Nat} {c : Cal} {pk v1 v2 v3 u1 u2 u3 : Value} {ev eu : List Value} {S S' : Sta} {r : Except Int (Sta × Ans)} {w' : World} {a : Ans} {v : Value} (h : r = .ok (S', a)) (hn : a.names = []) (hv : v = ansV a (.slice none 0 0)) (k : Cb w0 w' B c pk u1 u2 u3 eu S') (f : FrB B w w' v1 v2 v3 ev u1 u2 u3 eu) : Out w0 w B c pk v1 v2 v3 ev S r (.returned v) w' := by
 rw [h, hv]
 exact ⟨none, 0, 0, _, _, _, _, rfl, by rw [hn]; exact Sr.nil _ _, (fun b e => by cases e), k, f⟩
theorem boxR (w : World) (cs : Array Value) (t : TypeId) : ∃ W X, Hid (w.alloc (.cells cs t (0, 0)) = W ∧ w.heap.size = X) ∧ Hid (Kept [] w W) ∧ Hid (W.heap[X]? = some (.cells cs t (0, 0))) :=
 ⟨_, _, ⟨rfl, rfl⟩, (Kept.refl [] w).alloc _, Go.heap_alloc_new _ _⟩
@[reducible] def laidR (w : World) (R : Nat) (a b c d e f : Value) : World := (((((w.setCell ⟨R, 0, none⟩ a).setCell ⟨R, 1, none⟩ b).setCell ⟨R, 2, none⟩ c).setCell ⟨R, 3, none⟩ d).setCell ⟨R, 4, none⟩ e).setCell ⟨R, 5, none⟩ f
theorem block_res {w : World} {R : Nat} {T : TypeId} {c0 c1 c2 c3 c4 c5 : Value} (h : w.heap[R]? = some (.cells #[c0, c1, c2, c3, c4, c5] T (0, 0))) (a b c d e f : Value) : (laidR w R a b c d e f).heap[R]? = some (.cells #[a, b, c, d, e, f] T (0, 0)) := by
 unfold laidR
 rw [block_set (block_set (block_set (block_set (block_set (block_set h 0 _) 1 _) 2 _) 3 _) 4 _) 5 _]
 rfl
theorem Cb.res {w0 w : World} {B : Nat} {cl : Cal} {pk v1 v2 v3 : Value} {ev : List Value} {S : Sta} (h : Cb w0 w B cl pk v1 v2 v3 ev S) {R : Nat} (hR : w0.heap.size ≤ R) (ho : Off [R] v1 v2 v3 ev) (hB : R ≠ B) (a b c d e f : Value) : Cb w0 (laidR w R a b c d e f) B cl pk v1 v2 v3 ev S :=
 (((((h.beside hR ho hB a).beside hR ho hB b).beside hR ho hB c).beside hR ho hB d).beside hR ho hB e).beside hR ho hB f
theorem FrB.res {B : Nat} {w w' : World} {v1 v2 v3 u1 u2 u3 : Value} {ev eu : List Value} (h : FrB B w w' v1 v2 v3 ev u1 u2 u3 eu) {R : Nat} (hR : w.heap.size ≤ R) (a b c d e f : Value) : FrB B w (laidR w' R a b c d e f) v1 v2 v3 ev u1 u2 u3 eu :=
 (((((h.since hR a).since hR b).since hR c).since hR d).since hR e).since hR f
theorem heap_drew9 {w : World} : w.drew.heap = w.heap := rfl
theorem block_resd {w : World} {R : Nat} {T : TypeId} {c0 c1 c2 c3 c4 c5 : Value} (h : w.heap[R]? = some (.cells #[c0, c1, c2, c3, c4, c5] T (0, 0))) (a b c d e f : Value) : (laidR w R a b c d e f).drew.heap[R]? = some (.cells #[a, b, c, d, e, f] T (0, 0)) := by
 rw [heap_drew9]
 exact block_res h a b c d e f
theorem res_other {w : World} {R Z : Nat} {a b c d e f : Value} (h : Z ≠ R) : (laidR w R a b c d e f).heap[Z]? = w.heap[Z]? := by
 unfold laidR
 rw [block_other h, block_other h, block_other h, block_other h, block_other h, block_other h]
theorem Oks.laid {w0 w w5 w6 : World} {B : Nat} {c : Cal} {pk v1 v2 v3 u1 u2 u3 : Value} {ev eu : List Value} {S' : Sta} {A : Ans} {z : Option Addr} {l k : Nat} (hk : Kept [] w w5) {R : Nat} (hRl : w0.heap.size ≤ R) (hRw : w.heap.size ≤ R) (hR5 : R < w5.heap.size) (hRo : Off [R] v1 v2 v3 ev ∧ R ≠ B)
  (hsr : Sr w6 w5.heap.size (.slice z l k) A.names) (hof : ∀ b, (Value.slice z l k).ownBlock = some b → Off [b] u1 u2 u3 eu) (hcb : Cb w0 w6 B c pk u1 u2 u3 eu S') (hfr : FrB B w5 w6 v1 v2 v3 ev u1 u2 u3 eu) (a b d e f g : Value) :
  Oks w0 w B c pk v1 v2 v3 ev (S', A) (.returned (ansV A (.slice z l k))) (laidR w6 R a b d e f g) := by
 have h6 := hfr.2 R hR5 hRo.2 hRo.1
 refine ⟨z, l, k, u1, u2, u3, eu, rfl, ?_, hof, hcb.res hRl h6.2 hRo.2 _ _ _ _ _ _, FrB.res ((FrB.kept hk).trans hfr) hRw _ _ _ _ _ _⟩
 refine (hsr.same fun q hq => ?_).less hk.size
 have := (hsr.block q hq).1
 exact res_other (by omega)
theorem prg {w0 w : World} {B : Nat} {c : Cal} {pk v1 v2 v3 : Value} {ev : List Value} {S : Sta} (h : Cb w0 w B c pk v1 v2 v3 ev S) : ∃ W1 R, Hid (w.alloc (.cells #[.int .i64 0, .int .i64 0, .int .i64 0, .bool false, .string ⟨#[]⟩, .slice none 0 0] 31 (0, 0)) = W1 ∧ w.heap.size = R) ∧ Hid (Kept [] w W1) ∧ Hid (W1.heap[R]? = some (.cells #[.int .i64 0, .int .i64 0, .int .i64 0, .bool false, .string ⟨#[]⟩, .slice none 0 0] 31 (0, 0))) ∧ Hid (Cb w0 W1 B c pk v1 v2 v3 ev S) ∧ Hid (Off [R] v1 v2 v3 ev ∧ R ≠ B) ∧ Hid (w.heap.size ≤ R) ∧ Hid (w0.heap.size ≤ R) ∧
  ∃ p : Pl, v1 = .slice p.a1 S.ino.length p.c1 ∧ v2 = .slice p.a2 S.opn.length p.c2 ∧ v3 = .slice p.a3 S.made.length p.c3 ∧ Rd W1 B c pk p S ∧ (∀ x, p.a1 = some x → ∃ g, x = ⟨g, 0, none⟩) ∧ (∀ x, p.a3 = some x → ∃ g, x = ⟨g, 0, none⟩) ∧ Hid (Rd W1 B c pk p S) ∧ Hid (v1 = .slice p.a1 S.ino.length p.c1 ∧ v2 = .slice p.a2 S.opn.length p.c2 ∧ v3 = .slice p.a3 S.made.length p.c3 ∧ (∀ x, p.a1 = some x → ∃ g, x = ⟨g, 0, none⟩) ∧ (∀ x, p.a3 = some x → ∃ g, x = ⟨g, 0, none⟩)) := by
 obtain ⟨W1, R, HWR, HKR, HRb⟩ := boxR w #[.int .i64 0, .int .i64 0, .int .i64 0, .bool false, .string ⟨#[]⟩, .slice none 0 0] 31
 have HC1 : Hid (Cb w0 W1 B c pk v1 v2 v3 ev S) := h.kept HKR.out
 obtain ⟨p, e1, e2, e3, hrd, f1, f3⟩ := HC1.out.rd
 exact ⟨W1, R, HWR, HKR, HRb, HC1, h.new (Nat.le_of_eq HWR.out.2), Nat.le_of_eq HWR.out.2, by have := h.k.size; rw [← HWR.out.2]; exact this, p, e1, e2, e3, hrd, f1, f3, hrd, e1, e2, e3, f1, f3⟩
theorem run_append_in {P : Program} (w : World) (t ty e : TypeId) (i : TypeInfo) (k : Nat) (ht : P.underlying t = some (.slice e)) (hi : P.info? e = some i) (hk : i.size = k) (g sLen sCap : Nat) (a : Addr) (n c : Nat) (cs : List Value) (cur : Array Value) (T : TypeId)
  (hg : w.heap[g]? = some (.cells cur T (0, 0))) (hl : cs.length = n * k) (hsrc : ∀ j v, cs[j]? = some v → w.cell? (a.add j) = some v) (hroom : sLen + n ≤ sCap) (hfit : sLen * k + cs.length ≤ cur.size) (h1 : ∀ v ∈ cs, v.oneCell' = true) :
  (Builtin.append_ #[t, t] ty #[.slice (some ⟨g, 0, none⟩) sLen sCap, .slice (some a) n c]).run P w = .ok (.slice (some ⟨g, 0, none⟩) (sLen + n) sCap) (w.setRow g (cur.toList.take (sLen * k) ++ cs ++ cur.toList.drop (sLen * k + cs.length)).toArray) := by
 have hfo := run_firstCells_some (P := P) w k n a n c cs (by simpa using hl) hsrc
 have hst := run_storeCells_at P g (sLen * k) T cs 0 cur w hg (by simpa using hfit) h1
 simp only [Nat.add_zero] at hst
 simp [Builtin.append_, run_underlying ht, sizeOf, typeInfo, hi, hk, hroom, hfo, Addr.add_lit, hst, Builtin.lenOf]
theorem step_append_run9 {P : Program} {ops : Array Oper} {o : Oper} {a : Act} {w : World} {K : Act → World → Prop} {Q : Exit → Act → World → Prop} {E : Prop} (hg : o.guard = none) (s x : Operand) (t1 t2 : TypeId)
  (hop : o.op = Op.call { callee := Callee.builtin Builtin.append, args := #[s, x], argTypes := #[t1, t2] }) (v u : Value) (hs : a.eval s = v) (hx : a.eval x = u) (v' : Value) (w' : World)
  (hrun : (Builtin.append_ #[t1, t2] o.type #[v, u]).run P w = .ok v' w') (hK : K (a.put o.dst v') w') : if Region.wanted o (yielded ops a.tmps) = true then Oper.wp P o a w K Q else E := by
 have hw : Region.wanted o (yielded ops a.tmps) = true := by simp [Region.wanted, hg]
 rw [if_pos hw]
 unfold Oper.wp
 simp [execOp, hop, resolve, invoke, builtin, hs, hx, hrun, Result.andThen]
 exact hK
theorem wpList_clear_run {P : Program} (w : World) {ops : Array Oper} {rest : List Oper} {o : Oper} {a : Act} {Q : Exit → Act → World → Prop} (hgd : o.guard = none) (s : Operand) (t1 : TypeId)
  (ho : o.op = .call { callee := .builtin .clear, args := #[s], argTypes := #[t1] }) (v : Value) (hs : a.eval s = v) (v' : Value) (w' : World)
  (hr : (Builtin.clear_ #[t1] o.type #[v]).run P w = .ok v' w') (h : wpList P ops Q rest (a.put o.dst v') w') : wpList P ops Q (o :: rest) a w := by
 refine wpList_plain hgd fun K hK => ?_
 unfold Oper.wp execOp
 simp only [ho, resolve, invoke, builtin, Sem.run_bind, Sem.run_pure, Result.andThen_ok, List.map_toArray, List.map_cons, List.map_nil, hs, hr]
 exact hK _ _ h
theorem run_clear_one {P : Program} (w : World) (t e ty : TypeId) (z : Value) (k : Nat) (ht : P.underlying t = some (.slice e)) (hz : ∀ w, (zeroValue e).run P w = .ok z w) (hzs : z.cells.size = k) (h1 : ∀ v ∈ z.cells.toList, v.oneCell' = true) (g o c : Nat) (cur : Array Value) (T : TypeId)
  (hg : w.heap[g]? = some (.cells cur T (0, 0))) (hfit : o + k ≤ cur.size) :
  (Builtin.clear_ #[t] ty #[.slice (some ⟨g, o, none⟩) 1 c]).run P w = .ok (.tuple #[]) (w.setRow g (cur.toList.take o ++ z.cells.toList ++ cur.toList.drop (o + k)).toArray) := by
 have hzc : (Builtin.zeroCells z.cells 1).toList = z.cells.toList := by
  unfold Builtin.zeroCells
  apply List.ext_getElem
  · simp
  ·
   intro i h1 h2
   have : i < z.cells.size := by simpa using h2
   simp [Nat.mod_eq_of_lt this, getElem!_pos, this]
 have hlen : z.cells.toList.length = k := by simpa using hzs
 have hst := run_storeCells_at P g o T z.cells.toList 0 cur w hg (by rw [hlen]; simpa using hfit) h1
 rw [hlen] at hst
 simp only [Nat.add_zero] at hst
 simp [Builtin.clear_, run_underlying ht, hz, hzc, hst]
theorem take1 {A : List Value} {cs Z : List Value} {p k r : Nat} (hA : p + k + r ≤ A.length) (hc : cs.length = r) (hZ : Z.length = k) :
  ((A.take p ++ cs ++ A.drop (p + r)).take (p + r) ++ Z ++ (A.take p ++ cs ++ A.drop (p + r)).drop (p + r + k)).take (p + r) = A.take p ++ cs ∧
  ((A.take p ++ cs ++ A.drop (p + r)).take (p + r) ++ Z ++ (A.take p ++ cs ++ A.drop (p + r)).drop (p + r + k)).length = A.length ∧
  (A.take p ++ cs ++ A.drop (p + r)).length = A.length := by
 have hp : (A.take p).length = p := by rw [List.length_take]; omega
 have hpc : (A.take p ++ cs).length = p + r := by rw [List.length_append, hp, hc]
 have h1 : (A.take p ++ cs ++ A.drop (p + r)).take (p + r) = A.take p ++ cs := by
  rw [List.take_append_of_le_length (by omega), List.take_of_length_le (by omega)]
 have h3 : (A.take p ++ cs ++ A.drop (p + r)).length = A.length := by
  rw [List.length_append, hpc, List.length_drop]; omega
 refine ⟨?_, ?_, h3⟩
 · rw [h1, List.append_assoc, List.take_append_of_le_length (by omega), List.take_of_length_le (by omega)]
 · rw [h1, List.length_append, List.length_append, hpc, hZ, List.length_drop, h3]; omega
theorem zv_Desc (w : World) : (zeroValue 66).run Tryz.prog w = .ok (.agg #[.int .i64 0, .int .i64 0, .int .i64 0]) w := by kernel_rfl
theorem del_Desc {w : World} {H g n cap : Nat} {xs : List Value} (h : w.ownsRow H 66 3 (.slice (some ⟨g, 0, none⟩) n cap) n xs) (h1 : ∀ u ∈ xs, u.oneCell' = true) (i : Nat) (hi : i < n) (hn : n ≤ 5864062014634) :
  Calls Tryz.prog 139 #[.slice (some ⟨g, 0, none⟩) n cap, .int .i64 (i : Int), .int .i64 ((i : Int) + 1)] w fun e w' => e = .returned (.slice (some ⟨g, 0, none⟩) (n - 1) cap) ∧ w'.ownsRow H 66 3 (.slice (some ⟨g, 0, none⟩) (n - 1) cap) (n - 1) (xs.take (i * 3) ++ xs.drop ((i + 1) * 3)) ∧ Kept [g] w w' := by
 rcases h.2 with ⟨-, e2⟩ | ⟨g', cap', cur, hv, hHg, hgg, hnc, hcm, hcs, htk⟩
 · omega
 simp only [Value.slice.injEq, Option.some.injEq, Addr.mk.injEq, and_true, true_and] at hv
 obtain ⟨e1, e2⟩ := hv
 subst e1 e2
 obtain ⟨i0, hi0, hz0, hz1, hz2⟩ := info_parts info_Desc
 obtain ⟨m, hm⟩ : ∃ m, n = i + 1 + m := ⟨n - (i + 1), by omega⟩
 have hlx : xs.length = n * 3 := h.1
 have hAl : cur.toList.length = cap * 3 := by simpa using hcs
 obtain ⟨cs, hcs2⟩ : ∃ cs, xs.drop ((i + 1) * 3) = cs := ⟨_, rfl⟩
 have hcl : cs.length = m * 3 := by rw [← hcs2, List.length_drop, hlx]; omega
 have h1c : ∀ u ∈ cs, u.oneCell' = true := fun u hu => h1 u (List.mem_of_mem_drop (hcs2 ▸ hu))
 have hsrc : ∀ (a : Addr), (0 < m → a = ⟨g, (i + 1) * 3, none⟩) → ∀ j v, cs[j]? = some v → w.drew.cell? (a.add j) = some v := fun a ha j v hj => by
  have hjl : j < cs.length := by
   rcases Nat.lt_or_ge j cs.length with h | h
   · exact h
   · rw [List.getElem?_eq_none h] at hj; cases hj
  rw [ha (by omega), add_lit]
  show w.cell? _ = _
  rw [cellB hgg]
  rw [← hcs2, List.getElem?_drop, ← htk, List.getElem?_take_of_lt (by omega)] at hj
  simpa using hj
 obtain ⟨A, hA⟩ : ∃ A, cur.toList = A := ⟨_, rfl⟩
 have ap : ∀ (a : Addr) (c : Nat), (0 < m → a = ⟨g, (i + 1) * 3, none⟩) → (Builtin.append_ #[24, 24] 24 #[.slice (some ⟨g, 0, none⟩) i cap, .slice (some a) m c]).run Tryz.prog w.drew = .ok (.slice (some ⟨g, 0, none⟩) (i + m) cap) (w.drew.setRow g (A.take (i * 3) ++ cs ++ A.drop (i * 3 + m * 3)).toArray) := fun a c ha => by
  have := run_append_in (P := Tryz.prog) w.drew 24 24 66 i0 3 Tryz.underlying24 hi0 hz1 g i cap a m c cs cur 66 hgg hcl (hsrc a ha) (by omega) (by rw [hcl]; simp only [Array.size_eq_length_toList] at *; omega) h1c
  rw [hA, hcl] at this
  exact this
 obtain ⟨q1, q2, q3⟩ := take1 (A := A) (cs := cs) (Z := ((.agg #[.int .i64 0, .int .i64 0, .int .i64 0]) : Value).cells.toList) (p := i * 3) (k := 3) (r := m * 3) (by rw [← hA, hAl]; omega) hcl (by simp [Value.cells])
 obtain ⟨A1, hA1⟩ : ∃ A1, A.take (i * 3) ++ cs ++ A.drop (i * 3 + m * 3) = A1 := ⟨_, rfl⟩
 rw [hA1] at q1 q2 q3 ap
 obtain ⟨W1, hW1⟩ : ∃ W1, w.drew.setRow g A1.toArray = W1 := ⟨_, rfl⟩
 have hg1 : W1.heap[g]? = some (.cells A1.toArray 66 (0, 0)) := by rw [← hW1]; exact setRow_heap w.drew g cur _ _ _ hgg
 rw [hW1] at ap
 obtain ⟨A2, hA2⟩ : ∃ A2, A1.take (i * 3 + m * 3) ++ ((.agg #[.int .i64 0, .int .i64 0, .int .i64 0]) : Value).cells.toList ++ A1.drop (i * 3 + m * 3 + 3) = A2 := ⟨_, rfl⟩
 rw [hA2] at q1 q2
 have cl : ∀ o c, o = i * 3 + m * 3 → (Builtin.clear_ #[24] 0 #[.slice (some ⟨g, o, none⟩) 1 c]).run Tryz.prog W1 = .ok (.tuple #[]) (W1.setRow g A2.toArray) := fun o c ho => by
  have := run_clear_one (P := Tryz.prog) W1 24 66 0 (.agg #[.int .i64 0, .int .i64 0, .int .i64 0]) 3 Tryz.underlying24 zv_Desc rfl (by intro v hv; simp [Value.cells] at hv; rcases hv with rfl | rfl | rfl <;> rfl) g o c A1.toArray 66 hg1 (by rw [ho]; simp only [List.size_toArray]; rw [q3, ← hA, hAl]; omega)
  rw [ho] at this ⊢
  rw [List.toList_toArray, hA2] at this
  exact this
 obtain ⟨W2, hW2⟩ : ∃ W2, W1.setRow g A2.toArray = W2 := ⟨_, rfl⟩
 rw [hW2] at cl
 have HE : Hid (W2.ownsRow H 66 3 (.slice (some ⟨g, 0, none⟩) (i + m) cap) (i + m) (xs.take (i * 3) ++ cs) ∧ Kept [g] w W2) := by
  refine ⟨⟨?_, .inr ⟨g, cap, A2.toArray, rfl, hHg, ?_, by omega, hcm, ?_, ?_⟩⟩, ?_⟩
  · rw [List.length_append, List.length_take, hlx, hcl]; omega
  · rw [← hW2]; exact setRow_heap W1 g A1.toArray _ _ _ hg1
  · simp only [List.size_toArray]; rw [q2, ← hA]; exact hcs
  · rw [List.toList_toArray, Nat.add_mul, q1, ← htk, hA, List.take_take, Nat.min_eq_left (by omega)]
  ·
   rw [← hW2, ← hW1]
   exact ((Kept.refl _ w).drew.setRow (Or.inl (by simp)) _).setRow (Or.inl (by simp)) _
 have HAp : Hid (∀ (a : Addr) (mm c : Nat), mm = m → (0 < m → a = ⟨g, (i + 1) * 3, none⟩) → (Builtin.append_ #[24, 24] 24 #[.slice (some ⟨g, 0, none⟩) i cap, .slice (some a) mm c]).run Tryz.prog w.drew = .ok (.slice (some ⟨g, 0, none⟩) (i + m) cap) W1) := fun a mm c hmm ha => by subst hmm; exact ap a c ha
 have HCl : Hid (∀ o l c, l = 1 → o = i * 3 + m * 3 → (Builtin.clear_ #[24] 0 #[.slice (some ⟨g, o, none⟩) l c]).run Tryz.prog W1 = .ok (.tuple #[]) W2) := fun o l c hl ho => by subst hl; exact cl o c ho
 obtain ⟨q, hq⟩ : ∃ q, i + m = q := ⟨_, rfl⟩
 rw [hq] at HAp HE
 have HQ : Hid (n = q + 1 ∧ m = n - (i + 1) ∧ q * 3 = i * 3 + m * 3) := ⟨by omega, by omega, by rw [← hq]; omega⟩
 have HE2 : Hid (xs.drop ((i + 1) * 3) = cs ∧ n - 1 = q) := ⟨hcs2, by omega⟩
 have i1 : (0 : Int) ≤ (i : Int) := by omega
 have i2 : (i : Int) ≤ (i : Int) + 1 := by omega
 have i3 : (i : Int) + 1 ≤ (n : Int) := by omega
 have i4 : (n : Int) ≤ (cap : Int) := by omega
 have i5 : ¬ (i : Int) = (i : Int) + 1 := by omega
 have i6 : ((i : Int) == (i : Int) + 1) = false := by simpa using i5
 have i7 : ¬ n = i := by omega
 have i8 : (0 : Int) ≤ (i : Int) + 1 := by omega
 have i9 : ((i : Int) + 1).toNat = i + 1 := by omega
 have j1 : (q : Int) ≤ (n : Int) := by omega
 have j2 : (0 : Int) ≤ (q : Int) := by omega
 have j3 : ¬ cap = q := by omega
 have j4 : i ≤ cap := by omega
 have j5 : (i : Int) ≤ (cap : Int) := by omega
 have hcap : cap ≤ 9223372036854775807 := by unfold maxLen at hcm; omega
 clear h h1 hi hn hHg hgg hcm hcs htk hi0 hz0 hz1 hz2 hlx hAl hcl h1c hsrc hA q1 q2 q3 hA1 hW1 hg1 hA2 hW2 ap cl hq hm hcs2
 go_enter Tryz.func139, Tryz.ntmps139
 go_upto_region 5 with fail
 by_cases hc : cap = i + 1
 ·
  subst hc
  have k3 : ¬ i + 1 = q := j3
  refine wp_region_held_drew (S := fun w' => True) (by kernel_rfl) ?_ (fun hHeld => ?_)
  · trivial
  refine tkA 0 rfl ?_
  refine tkA 1 rfl ?_
  refine tkA 2 rfl ?_
  refine tkA 3 rfl ?_
  refine tkA 4 rfl ?_
  refine tkA 5 rfl ?_
  refine wpAnyH_ready (rs := [6]) (by kernel_rfl) (by simp) ?_
  refine AllReadyH.cons rfl (fun K hK => ?_) AllReadyH.nil
  refine step_append_run9 (by rfl) _ _ 24 24 (by rfl) _ _ (by rfl) (by rfl) _ _ (HAp.out _ _ _ (by have := HQ.out; omega) (fun h => by first | rfl | (exfalso; have := HQ.out; omega))) ?_
  refine hK.out _ _ ?_ (fun hHeld => ?_)
  · trivial
  clear hK K
  try simp only [Act.put, lz0, lz1, lz2, lz3, lz4, lz5]
  refine tkA 7 rfl ?_
  refine wpAnyH_done (by kernel_rfl) ?_ _
  have hcl := HCl.out (q * 3) (n - q) (i + 1 - q) (by have := HQ.out.1; omega) HQ.out.2.2
  go_wp2_with (first
   | (at_builtin; refine wpList_clear_run _ rfl _ 24 rfl _ rfl _ _ hcl ?_))
  go_ret
  exact ⟨by rw [HE2.out.2]; rfl, by rw [HE2.out.1, HE2.out.2]; exact HE.out.1, HE.out.2⟩
 ·
  skip
  refine wp_region_held_drew (S := fun w' => True) (by kernel_rfl) ?_ (fun hHeld => ?_)
  · trivial
  refine tkA 0 rfl ?_
  refine tkA 1 rfl ?_
  refine tkA 2 rfl ?_
  refine tkA 3 rfl ?_
  refine tkA 4 rfl ?_
  refine tkA 5 rfl ?_
  refine wpAnyH_ready (rs := [6]) (by kernel_rfl) (by simp) ?_
  refine AllReadyH.cons rfl (fun K hK => ?_) AllReadyH.nil
  refine step_append_run9 (by rfl) _ _ 24 24 (by rfl) _ _ (by rfl) (by rfl) _ _ (HAp.out _ _ _ (by have := HQ.out; omega) (fun h => by first | rfl | (exfalso; have := HQ.out; omega))) ?_
  refine hK.out _ _ ?_ (fun hHeld => ?_)
  · trivial
  clear hK K
  try simp only [Act.put, lz0, lz1, lz2, lz3, lz4, lz5]
  refine tkA 7 rfl ?_
  refine wpAnyH_done (by kernel_rfl) ?_ _
  have hcl := HCl.out (q * 3) (n - q) (cap - q) (by have := HQ.out.1; omega) HQ.out.2.2
  go_wp2_with (first
   | (at_builtin; refine wpList_clear_run _ rfl _ 24 rfl _ rfl _ _ hcl ?_))
  go_ret
  exact ⟨by rw [HE2.out.2]; rfl, by rw [HE2.out.1, HE2.out.2]; exact HE.out.1, HE.out.2⟩
theorem zv_Entry (w : World) : (zeroValue 64).run Tryz.prog w = .ok (.agg #[.string ⟨#[]⟩, .int .i64 0]) w := by kernel_rfl
theorem del_Entry {w : World} {H g n cap : Nat} {xs : List Value} (h : w.ownsRow H 64 2 (.slice (some ⟨g, 0, none⟩) n cap) n xs) (h1 : ∀ u ∈ xs, u.oneCell' = true) (i : Nat) (hi : i < n) (hn : n ≤ 5864062014634) :
  Calls Tryz.prog 159 #[.slice (some ⟨g, 0, none⟩) n cap, .int .i64 (i : Int), .int .i64 ((i : Int) + 1)] w fun e w' => e = .returned (.slice (some ⟨g, 0, none⟩) (n - 1) cap) ∧ w'.ownsRow H 64 2 (.slice (some ⟨g, 0, none⟩) (n - 1) cap) (n - 1) (xs.take (i * 2) ++ xs.drop ((i + 1) * 2)) ∧ Kept [g] w w' := by
 rcases h.2 with ⟨-, e2⟩ | ⟨g', cap', cur, hv, hHg, hgg, hnc, hcm, hcs, htk⟩
 · omega
 simp only [Value.slice.injEq, Option.some.injEq, Addr.mk.injEq, and_true, true_and] at hv
 obtain ⟨e1, e2⟩ := hv
 subst e1 e2
 obtain ⟨i0, hi0, hz0, hz1, hz2⟩ := info_parts info_Entry
 obtain ⟨m, hm⟩ : ∃ m, n = i + 1 + m := ⟨n - (i + 1), by omega⟩
 have hlx : xs.length = n * 2 := h.1
 have hAl : cur.toList.length = cap * 2 := by simpa using hcs
 obtain ⟨cs, hcs2⟩ : ∃ cs, xs.drop ((i + 1) * 2) = cs := ⟨_, rfl⟩
 have hcl : cs.length = m * 2 := by rw [← hcs2, List.length_drop, hlx]; omega
 have h1c : ∀ u ∈ cs, u.oneCell' = true := fun u hu => h1 u (List.mem_of_mem_drop (hcs2 ▸ hu))
 have hsrc : ∀ (a : Addr), (0 < m → a = ⟨g, (i + 1) * 2, none⟩) → ∀ j v, cs[j]? = some v → w.drew.cell? (a.add j) = some v := fun a ha j v hj => by
  have hjl : j < cs.length := by
   rcases Nat.lt_or_ge j cs.length with h | h
   · exact h
   · rw [List.getElem?_eq_none h] at hj; cases hj
  rw [ha (by omega), add_lit]
  show w.cell? _ = _
  rw [cellB hgg]
  rw [← hcs2, List.getElem?_drop, ← htk, List.getElem?_take_of_lt (by omega)] at hj
  simpa using hj
 obtain ⟨A, hA⟩ : ∃ A, cur.toList = A := ⟨_, rfl⟩
 have ap : ∀ (a : Addr) (c : Nat), (0 < m → a = ⟨g, (i + 1) * 2, none⟩) → (Builtin.append_ #[60, 60] 60 #[.slice (some ⟨g, 0, none⟩) i cap, .slice (some a) m c]).run Tryz.prog w.drew = .ok (.slice (some ⟨g, 0, none⟩) (i + m) cap) (w.drew.setRow g (A.take (i * 2) ++ cs ++ A.drop (i * 2 + m * 2)).toArray) := fun a c ha => by
  have := run_append_in (P := Tryz.prog) w.drew 60 60 64 i0 2 Tryz.underlying60 hi0 hz1 g i cap a m c cs cur 64 hgg hcl (hsrc a ha) (by omega) (by rw [hcl]; simp only [Array.size_eq_length_toList] at *; omega) h1c
  rw [hA, hcl] at this
  exact this
 obtain ⟨q1, q2, q3⟩ := take1 (A := A) (cs := cs) (Z := ((.agg #[.string ⟨#[]⟩, .int .i64 0]) : Value).cells.toList) (p := i * 2) (k := 2) (r := m * 2) (by rw [← hA, hAl]; omega) hcl (by simp [Value.cells])
 obtain ⟨A1, hA1⟩ : ∃ A1, A.take (i * 2) ++ cs ++ A.drop (i * 2 + m * 2) = A1 := ⟨_, rfl⟩
 rw [hA1] at q1 q2 q3 ap
 obtain ⟨W1, hW1⟩ : ∃ W1, w.drew.setRow g A1.toArray = W1 := ⟨_, rfl⟩
 have hg1 : W1.heap[g]? = some (.cells A1.toArray 64 (0, 0)) := by rw [← hW1]; exact setRow_heap w.drew g cur _ _ _ hgg
 rw [hW1] at ap
 obtain ⟨A2, hA2⟩ : ∃ A2, A1.take (i * 2 + m * 2) ++ ((.agg #[.string ⟨#[]⟩, .int .i64 0]) : Value).cells.toList ++ A1.drop (i * 2 + m * 2 + 2) = A2 := ⟨_, rfl⟩
 rw [hA2] at q1 q2
 have cl : ∀ o c, o = i * 2 + m * 2 → (Builtin.clear_ #[60] 0 #[.slice (some ⟨g, o, none⟩) 1 c]).run Tryz.prog W1 = .ok (.tuple #[]) (W1.setRow g A2.toArray) := fun o c ho => by
  have := run_clear_one (P := Tryz.prog) W1 60 64 0 (.agg #[.string ⟨#[]⟩, .int .i64 0]) 2 Tryz.underlying60 zv_Entry rfl (by intro v hv; simp [Value.cells] at hv; rcases hv with rfl | rfl <;> rfl) g o c A1.toArray 64 hg1 (by rw [ho]; simp only [List.size_toArray]; rw [q3, ← hA, hAl]; omega)
  rw [ho] at this ⊢
  rw [List.toList_toArray, hA2] at this
  exact this
 obtain ⟨W2, hW2⟩ : ∃ W2, W1.setRow g A2.toArray = W2 := ⟨_, rfl⟩
 rw [hW2] at cl
 have HE : Hid (W2.ownsRow H 64 2 (.slice (some ⟨g, 0, none⟩) (i + m) cap) (i + m) (xs.take (i * 2) ++ cs) ∧ Kept [g] w W2) := by
  refine ⟨⟨?_, .inr ⟨g, cap, A2.toArray, rfl, hHg, ?_, by omega, hcm, ?_, ?_⟩⟩, ?_⟩
  · rw [List.length_append, List.length_take, hlx, hcl]; omega
  · rw [← hW2]; exact setRow_heap W1 g A1.toArray _ _ _ hg1
  · simp only [List.size_toArray]; rw [q2, ← hA]; exact hcs
  · rw [List.toList_toArray, Nat.add_mul, q1, ← htk, hA, List.take_take, Nat.min_eq_left (by omega)]
  ·
   rw [← hW2, ← hW1]
   exact ((Kept.refl _ w).drew.setRow (Or.inl (by simp)) _).setRow (Or.inl (by simp)) _
 have HAp : Hid (∀ (a : Addr) (mm c : Nat), mm = m → (0 < m → a = ⟨g, (i + 1) * 2, none⟩) → (Builtin.append_ #[60, 60] 60 #[.slice (some ⟨g, 0, none⟩) i cap, .slice (some a) mm c]).run Tryz.prog w.drew = .ok (.slice (some ⟨g, 0, none⟩) (i + m) cap) W1) := fun a mm c hmm ha => by subst hmm; exact ap a c ha
 have HCl : Hid (∀ o l c, l = 1 → o = i * 2 + m * 2 → (Builtin.clear_ #[60] 0 #[.slice (some ⟨g, o, none⟩) l c]).run Tryz.prog W1 = .ok (.tuple #[]) W2) := fun o l c hl ho => by subst hl; exact cl o c ho
 obtain ⟨q, hq⟩ : ∃ q, i + m = q := ⟨_, rfl⟩
 rw [hq] at HAp HE
 have HQ : Hid (n = q + 1 ∧ m = n - (i + 1) ∧ q * 2 = i * 2 + m * 2) := ⟨by omega, by omega, by rw [← hq]; omega⟩
 have HE2 : Hid (xs.drop ((i + 1) * 2) = cs ∧ n - 1 = q) := ⟨hcs2, by omega⟩
 have i1 : (0 : Int) ≤ (i : Int) := by omega
 have i2 : (i : Int) ≤ (i : Int) + 1 := by omega
 have i3 : (i : Int) + 1 ≤ (n : Int) := by omega
 have i4 : (n : Int) ≤ (cap : Int) := by omega
 have i5 : ¬ (i : Int) = (i : Int) + 1 := by omega
 have i6 : ((i : Int) == (i : Int) + 1) = false := by simpa using i5
 have i7 : ¬ n = i := by omega
 have i8 : (0 : Int) ≤ (i : Int) + 1 := by omega
 have i9 : ((i : Int) + 1).toNat = i + 1 := by omega
 have j1 : (q : Int) ≤ (n : Int) := by omega
 have j2 : (0 : Int) ≤ (q : Int) := by omega
 have j3 : ¬ cap = q := by omega
 have j4 : i ≤ cap := by omega
 have j5 : (i : Int) ≤ (cap : Int) := by omega
 have hcap : cap ≤ 9223372036854775807 := by unfold maxLen at hcm; omega
 clear h h1 hi hn hHg hgg hcm hcs htk hi0 hz0 hz1 hz2 hlx hAl hcl h1c hsrc hA q1 q2 q3 hA1 hW1 hg1 hA2 hW2 ap cl hq hm hcs2
 go_enter Tryz.func159, Tryz.ntmps159
 go_upto_region 5 with fail
 by_cases hc : cap = i + 1
 ·
  subst hc
  have k3 : ¬ i + 1 = q := j3
  refine wp_region_held_drew (S := fun w' => True) (by kernel_rfl) ?_ (fun hHeld => ?_)
  · trivial
  refine tkA 0 rfl ?_
  refine tkA 1 rfl ?_
  refine tkA 2 rfl ?_
  refine tkA 3 rfl ?_
  refine tkA 4 rfl ?_
  refine tkA 5 rfl ?_
  refine wpAnyH_ready (rs := [6]) (by kernel_rfl) (by simp) ?_
  refine AllReadyH.cons rfl (fun K hK => ?_) AllReadyH.nil
  refine step_append_run9 (by rfl) _ _ 60 60 (by rfl) _ _ (by rfl) (by rfl) _ _ (HAp.out _ _ _ (by have := HQ.out; omega) (fun h => by first | rfl | (exfalso; have := HQ.out; omega))) ?_
  refine hK.out _ _ ?_ (fun hHeld => ?_)
  · trivial
  clear hK K
  try simp only [Act.put, lz0, lz1, lz2, lz3, lz4, lz5]
  refine tkA 7 rfl ?_
  refine wpAnyH_done (by kernel_rfl) ?_ _
  have hcl := HCl.out (q * 2) (n - q) (i + 1 - q) (by have := HQ.out.1; omega) HQ.out.2.2
  go_wp2_with (first
   | (at_builtin; refine wpList_clear_run _ rfl _ 60 rfl _ rfl _ _ hcl ?_))
  go_ret
  exact ⟨by rw [HE2.out.2]; rfl, by rw [HE2.out.1, HE2.out.2]; exact HE.out.1, HE.out.2⟩
 ·
  skip
  refine wp_region_held_drew (S := fun w' => True) (by kernel_rfl) ?_ (fun hHeld => ?_)
  · trivial
  refine tkA 0 rfl ?_
  refine tkA 1 rfl ?_
  refine tkA 2 rfl ?_
  refine tkA 3 rfl ?_
  refine tkA 4 rfl ?_
  refine tkA 5 rfl ?_
  refine wpAnyH_ready (rs := [6]) (by kernel_rfl) (by simp) ?_
  refine AllReadyH.cons rfl (fun K hK => ?_) AllReadyH.nil
  refine step_append_run9 (by rfl) _ _ 60 60 (by rfl) _ _ (by rfl) (by rfl) _ _ (HAp.out _ _ _ (by have := HQ.out; omega) (fun h => by first | rfl | (exfalso; have := HQ.out; omega))) ?_
  refine hK.out _ _ ?_ (fun hHeld => ?_)
  · trivial
  clear hK K
  try simp only [Act.put, lz0, lz1, lz2, lz3, lz4, lz5]
  refine tkA 7 rfl ?_
  refine wpAnyH_done (by kernel_rfl) ?_ _
  have hcl := HCl.out (q * 2) (n - q) (cap - q) (by have := HQ.out.1; omega) HQ.out.2.2
  go_wp2_with (first
   | (at_builtin; refine wpList_clear_run _ rfl _ 60 rfl _ rfl _ _ hcl ?_))
  go_ret
  exact ⟨by rw [HE2.out.2]; rfl, by rw [HE2.out.1, HE2.out.2]; exact HE.out.1, HE.out.2⟩
end Go.Proofs.YtjneoegbknclgaaGreatDoor
