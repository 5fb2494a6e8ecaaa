/-
  Package oplog: the logs of all cores; has, isKind, New, Last.
-/
import Derived.Test.YtlecpeofjabndaaLg
namespace Go.Proofs.Ytlecpeofjabndaa
open Go.RowKit
set_option linter.unusedVariables false
set_option linter.unusedSimpArgs false

theorem results_ct {P : Program} {fn : Func} {p q : Tmp} {ty : TypeId} (h : fn.results = #[.cell p ty, .tmp q]) (tmps : Array Value) (w : World) (g : Nat) (t : TypeId) (cs : Array Value) (fr : Nat × Nat) (d : TypeDesc) (v : Value)
    (hp : tmps.getD p undef = .pointer (some ⟨g, 0, none⟩)) (hq : tmps.getD q undef = v) (hg : w.heap[g]? = some (.cells cs t fr))
    (hu : P.underlying ty = some d) (hd : (match d with | .struct _ | .array _ _ => true | _ => false) = true) (hi : (P.info? ty).map (·.size) = some cs.size) :
    (results fn tmps).run P w = .ok (.tuple #[.agg cs, v]) w := by
  have hp' : tmps[p]?.getD undef = .pointer (some ⟨g, 0, none⟩) := by simpa using hp
  have hq' : tmps[q]?.getD undef = v := by simpa using hq
  simp [results, h, hp', hq', asAddr, run_loadVar_row w g t ty cs fr d hg hu hd hi]

/-- A core: where its records lie, its records, its last stamp. -/
structure Co where
  v : Value
  R : List Rec
  a : Int
  k : Int

/-- Cores as cells. -/
def coC (C : List Co) : List Value := C.flatMap fun c => [c.v, .int .i64 c.a, .int .i64 c.k]

theorem coC_length (C : List Co) : (coC C).length = C.length * 3 := by
  unfold coC
  induction C with
  | nil => rfl
  | cons x C ih => simp at ih ⊢; omega

theorem coC_get (C : List Co) : ∀ i c, C[i]? = some c → (coC C)[i * 3]? = some c.v ∧ (coC C)[i * 3 + 1]? = some (.int .i64 c.a) ∧ (coC C)[i * 3 + 2]? = some (.int .i64 c.k) := by
  induction C with
  | nil => intro i x h; simp at h
  | cons y C ih =>
    intro i x h
    cases i with
    | zero => simp at h; subst h; simp [coC]
    | succ i =>
      have := ih i x (by simpa using h)
      have e : coC (y :: C) = y.v :: .int .i64 y.a :: .int .i64 y.k :: coC C := by simp [coC]
      rw [e, show (i + 1) * 3 = i * 3 + 1 + 1 + 1 by omega]
      simpa using this

theorem coC_set (C : List Co) : ∀ i c, i < C.length → coC (C.set i c) = (((coC C).set (i * 3) c.v).set (i * 3 + 1) (.int .i64 c.a)).set (i * 3 + 2) (.int .i64 c.k) := by
  induction C with
  | nil => intro i x h; simp at h
  | cons y C ih =>
    intro i x h
    have e : ∀ (y : Co) C, coC (y :: C) = y.v :: .int .i64 y.a :: .int .i64 y.k :: coC C := fun y C => by simp [coC]
    cases i with
    | zero => simp [e]
    | succ i =>
      have := ih i x (by simpa using h)
      rw [List.set_cons_succ, e, e, this, show (i + 1) * 3 = i * 3 + 1 + 1 + 1 by omega]
      rfl

theorem list_set_self {α : Type} : ∀ (l : List α) (i : Nat) (x : α), l[i]? = some x → l.set i x = l
  | [], _, _, h => by simp at h
  | y :: l, 0, x, h => by simp at h; subst h; rfl
  | y :: l, i + 1, x, h => by rw [List.set_cons_succ, list_set_self l i x (by simpa using h)]

/-- The log's blocks. -/
def bl (p g : Nat) (C : List Co) : List Nat := p :: g :: C.filterMap fun c => c.v.ownBlock

/-- A log, in blocks from H on. -/
structure Lo (H : Nat) (w : World) (p g : Nat) (C : List Co) : Prop where
  main : w.heap[p]? = some (.cells #[.slice (some ⟨g, 0, none⟩) C.length C.length] 64 (0, 0))
  arr : w.heap[g]? = some (.cells (coC C).toArray 66 (0, 0))
  each : ∀ i (hi : i < C.length), Rr w H (C[i]).v (C[i]).R
  pg : p ≠ g
  hp : H ≤ p
  hg : H ≤ g
  off : ∀ i (hi : i < C.length) x, (C[i]).v.ownBlock = some x → x ≠ p ∧ x ≠ g
  pair : ∀ i j (hi : i < C.length) (hj : j < C.length) x, i ≠ j → (C[i]).v.ownBlock = some x → (C[j]).v.ownBlock = some x → False
  clo : 1 ≤ C.length
  chi : C.length ≤ 8
  len : ∀ i (hi : i < C.length), (C[i]).R.length ≤ 256
  small : ∀ i (hi : i < C.length), ∀ r ∈ (C[i]).R, r.small

theorem mem_bl {p g x : Nat} {C : List Co} : x ∈ bl p g C ↔ x = p ∨ x = g ∨ ∃ i, ∃ (hi : i < C.length), (C[i]).v.ownBlock = some x := by
  unfold bl
  simp only [List.mem_cons, List.mem_filterMap]
  constructor
  · rintro (h | h | ⟨c, hc, h⟩)
    · exact Or.inl h
    · exact Or.inr (Or.inl h)
    · obtain ⟨i, hi, rfl⟩ := List.getElem_of_mem hc
      exact Or.inr (Or.inr ⟨i, hi, h⟩)
  · rintro (h | h | ⟨i, hi, h⟩)
    · exact Or.inl h
    · exact Or.inr (Or.inl h)
    · exact Or.inr (Or.inr ⟨_, List.getElem_mem hi, h⟩)

theorem Lo.lt {H : Nat} {w : World} {p g : Nat} {C : List Co} (h : Lo H w p g C) : ∀ x ∈ bl p g C, H ≤ x ∧ x < w.heap.size := fun x hx => by
  rcases mem_bl.1 hx with rfl | rfl | ⟨i, hi, hb⟩
  · exact ⟨h.hp, lt_of_heap h.main⟩
  · exact ⟨h.hg, lt_of_heap h.arr⟩
  · exact (h.each i hi).block x hb

theorem Lo.kept {H : Nat} {w w' : World} {p g : Nat} {C : List Co} {F : List Nat} (h : Lo H w p g C) (k : Kept F w w') (hF : ∀ x ∈ F, x ∉ bl p g C) : Lo H w' p g C where
  main := by rw [k.block p (lt_of_heap h.main) (fun hm => hF p hm (mem_bl.2 (Or.inl rfl)))]; exact h.main
  arr := by rw [k.block g (lt_of_heap h.arr) (fun hm => hF g hm (mem_bl.2 (Or.inr (Or.inl rfl))))]; exact h.arr
  each := fun i hi => (h.each i hi).kept k (fun x hx e => hF x hx (mem_bl.2 (Or.inr (Or.inr ⟨i, hi, e⟩))))
  pg := h.pg
  hp := h.hp
  hg := h.hg
  off := h.off
  pair := h.pair
  clo := h.clo
  chi := h.chi
  len := h.len
  small := h.small

theorem Lo.kept0 {H : Nat} {w w' : World} {p g : Nat} {C : List Co} (h : Lo H w p g C) (k : Kept [] w w') : Lo H w' p g C := h.kept k (by simp)

theorem Lo.box {H : Nat} {w : World} {p g : Nat} {C : List Co} (h : Lo H w p g C) : w.cell? ⟨p, 0, none⟩ = some (.slice (some ⟨g, 0, none⟩) C.length C.length) := cellB h.main

theorem Lo.cells {H : Nat} {w : World} {p g : Nat} {C : List Co} (h : Lo H w p g C) {i : Nat} (hi : i < C.length) : w.cell? ⟨g, i * 3, none⟩ = some (C[i]).v ∧ w.cell? ⟨g, i * 3 + 1, none⟩ = some (.int .i64 (C[i]).a) ∧ w.cell? ⟨g, i * 3 + 2, none⟩ = some (.int .i64 (C[i]).k) := by
  obtain ⟨q0, q1, q2⟩ := coC_get C i _ (List.getElem?_eq_getElem hi)
  have f : ∀ j, w.cell? ⟨g, j, none⟩ = (coC C)[j]? := fun j => by rw [cellB h.arr]; simp
  rw [f, f, f]
  exact ⟨q0, q1, q2⟩

theorem Lo.frozen {H : Nat} {w : World} {p g : Nat} {C : List Co} (h : Lo H w p g C) (i : Nat) : w.frozen? ⟨g, i, none⟩ = false := frozen_of h.arr i

/-- A core's row is another now, its last stamp too. -/
theorem Lo.put {H : Nat} {w w1 w2 : World} {p g : Nat} {C : List Co} (h : Lo H w p g C) {i : Nat} (hi : i < C.length) (c : Co) (hK : Kept (C[i]).v.ownBlock.toList w w1) (hr : Rr w1 H c.v c.R) (hat : ∀ x, c.v.ownBlock = some x → (C[i]).v.ownBlock = some x ∨ w.heap.size ≤ x) (hlen : c.R.length ≤ 256) (hsm : ∀ r ∈ c.R, r.small) (hK2 : Kept [g] w1 w2) (harr : w2.heap[g]? = some (.cells (coC (C.set i c)).toArray 66 (0, 0))) :
    Lo H w2 p g (C.set i c) ∧ ∀ x ∈ bl p g (C.set i c), x ∈ bl p g C ∨ w.heap.size ≤ x := by
  have ltp := lt_of_heap h.main
  have ltg := lt_of_heap h.arr
  have offb : ∀ x, x ∈ (C[i]).v.ownBlock.toList → (C[i]).v.ownBlock = some x := fun x hx => by simpa using hx
  have newc : ∀ x, c.v.ownBlock = some x → x ≠ p ∧ x ≠ g := fun x e => by
    rcases hat x e with h1 | h1
    · exact h.off i hi x h1
    · omega
  have other : ∀ j (hj : j < C.length), i ≠ j → Rr w2 H (C[j]).v (C[j]).R := fun j hj hij => by
    have h1 : Rr w1 H (C[j]).v (C[j]).R := (h.each j hj).kept hK (fun x hx e => h.pair i j hi hj x hij (offb x hx) e)
    exact h1.kept hK2 (fun x hx e => by
      have : x = g := by simpa using hx
      exact (h.off j hj x e).2 this)
  have gs : ∀ j (hj : j < (C.set i c).length), (j = i ∧ (C.set i c)[j] = c) ∨ (i ≠ j ∧ ∃ hj' : j < C.length, (C.set i c)[j] = C[j]) := fun j hj => by
    have hj' : j < C.length := by simpa using hj
    by_cases e : j = i
    · subst e; exact Or.inl ⟨rfl, by simp⟩
    · exact Or.inr ⟨fun e' => e e'.symm, hj', by rw [List.getElem_set_ne (fun e' => e e'.symm)]⟩
  have oldp : ∀ j (hj : j < C.length) x, i ≠ j → c.v.ownBlock = some x → (C[j]).v.ownBlock = some x → False := fun j hj x hij e1 e2 => by
    rcases hat x e1 with h1 | h1
    · exact h.pair i j hi hj x hij h1 e2
    · have := ((h.each j hj).block x e2).2; omega
  refine ⟨⟨?_, harr, ?_, h.pg, h.hp, h.hg, ?_, ?_, by simpa using h.clo, by simpa using h.chi, ?_, ?_⟩, ?_⟩
  · rw [hK2.block p (Nat.lt_of_lt_of_le ltp hK.size) (by simpa using h.pg), hK.block p ltp (fun hm => (h.off i hi p (offb p hm)).1 rfl), h.main]
    simp
  · intro j hj
    rcases gs j hj with ⟨rfl, e⟩ | ⟨hij, hj', e⟩
    · rw [e]; exact hr.kept hK2 (fun x hx e2 => by
        have : x = g := by simpa using hx
        exact (newc x e2).2 this)
    · rw [e]; exact other j hj' hij
  · intro j hj x hx
    rcases gs j hj with ⟨rfl, e⟩ | ⟨hij, hj', e⟩
    · rw [e] at hx; exact newc x hx
    · rw [e] at hx; exact h.off j hj' x hx
  · intro j l hj hl x hjl hx hy
    rcases gs j hj with ⟨rfl, e⟩ | ⟨hij, hj', e⟩
    · rcases gs l hl with ⟨rfl, e2⟩ | ⟨hil, hl', e2⟩
      · exact hjl rfl
      · rw [e] at hx; rw [e2] at hy; exact oldp l hl' x hil hx hy
    · rcases gs l hl with ⟨rfl, e2⟩ | ⟨hil, hl', e2⟩
      · rw [e] at hx; rw [e2] at hy; exact oldp j hj' x hij hy hx
      · rw [e] at hx; rw [e2] at hy; exact h.pair j l hj' hl' x hjl hx hy
  · intro j hj
    rcases gs j hj with ⟨rfl, e⟩ | ⟨hij, hj', e⟩
    · rw [e]; exact hlen
    · rw [e]; exact h.len j hj'
  · intro j hj
    rcases gs j hj with ⟨rfl, e⟩ | ⟨hij, hj', e⟩
    · rw [e]; exact hsm
    · rw [e]; exact h.small j hj'
  · intro x hx
    rcases mem_bl.1 hx with rfl | rfl | ⟨j, hj, hb⟩
    · exact Or.inl (mem_bl.2 (Or.inl rfl))
    · exact Or.inl (mem_bl.2 (Or.inr (Or.inl rfl)))
    · rcases gs j hj with ⟨rfl, e⟩ | ⟨hij, hj', e⟩
      · rw [e] at hb
        rcases hat x hb with h1 | h1
        · exact Or.inl (mem_bl.2 (Or.inr (Or.inr ⟨j, hi, h1⟩)))
        · exact Or.inr h1
      · rw [e] at hb; exact Or.inl (mem_bl.2 (Or.inr (Or.inr ⟨j, hj', hb⟩)))

/-- Is there such a kind? -/
def kindB (z : Int) : Bool := decide (0 ≤ z) && decide (z ≤ 16)

set_option maxRecDepth 100000 in
set_option maxHeartbeats 4000000 in
theorem p_kind (z : Int) (w : World) : Calls Try.prog 21 #[.int .i64 z] w fun e w' => e = .returned (.bool (kindB z)) ∧ w' = w := by
  by_cases h1 : (0 : Int) ≤ z
  · have HE : Hid (decide (z ≤ 16) = kindB z) := by show _ = _; simp [kindB, h1]
    go_enter Try.func21, Try.ntmps21
    go_wp2_with fail
    go_ret
    exact ⟨ret_bool HE.out, rfl⟩
  · have HE : Hid (false = kindB z) := by show _ = _; simp [kindB, h1]
    go_enter Try.func21, Try.ntmps21
    go_wp2_with fail
    go_ret
    exact ⟨ret_bool HE.out, rfl⟩

/-- Is there such a core? -/
def hasB (n : Nat) (z : Int) : Bool := decide (0 ≤ z) && decide (z < n)

set_option maxRecDepth 100000 in
set_option maxHeartbeats 4000000 in
theorem p_has {H : Nat} {w : World} {p g : Nat} {C : List Co} (h : Lo H w p g C) (z : Int) : Calls Try.prog 22 #[.pointer (some ⟨p, 0, none⟩), .int .i64 z] w fun e w' => e = .returned (.bool (hasB C.length z)) ∧ w' = w := by
  have c0 := h.box
  have hl := h.chi
  clear h
  generalize C.length = n at *
  by_cases h1 : (0 : Int) ≤ z
  · have HE : Hid (decide (z < (n : Int)) = hasB n z) := by show _ = _; simp [hasB, h1]
    go_enter Try.func22, Try.ntmps22
    go_wp2_with fail
    go_ret
    exact ⟨ret_bool HE.out, rfl⟩
  · have HE : Hid (false = hasB n z) := by show _ = _; simp [hasB, h1]
    go_enter Try.func22, Try.ntmps22
    go_wp2_with fail
    go_ret
    exact ⟨ret_bool HE.out, rfl⟩

theorem box1 (w : World) (A : Array Value) (t : TypeId) : ∃ U X, Hid (w.alloc (.cells A t (0, 0)) = U ∧ w.heap.size = X) ∧ Hid (Kept [] w U ∧ w.heap.size ≤ X) ∧ Hid (U.heap[X]? = some (.cells A t (0, 0))) :=
  ⟨_, _, ⟨rfl, rfl⟩, ⟨(Kept.refl [] w).alloc _, Nat.le_refl _⟩, Go.heap_alloc_new _ _⟩

set_option maxRecDepth 100000 in
set_option maxHeartbeats 4000000 in
theorem p_last {H : Nat} {w : World} {p g : Nat} {C : List Co} (h : Lo H w p g C) {i : Nat} (hi : i < C.length) (z : Int) (hz : z = (i : Int)) : Calls Try.prog 18 #[.pointer (some ⟨p, 0, none⟩), .int .i64 z] w fun e w' => e = .returned (.agg #[.int .i64 (C[i]).a, .int .i64 (C[i]).k]) ∧ Kept [] w w' := by
  subst hz
  obtain ⟨U, X, HU, HK, HB⟩ := box1 w #[.int .i64 0, .int .i64 0] 35
  have HL : Hid (_) := h.kept0 HK.out.1
  have hh : hasB C.length (i : Int) = true := by simp [hasB]; omega
  have P1 := p_has HL.out (i : Int)
  rw [hh] at P1
  have c0 := HL.out.box
  obtain ⟨-, c1, c2⟩ := HL.out.cells hi
  have hl := h.chi
  have z0 : (0 : Int) ≤ (i : Int) := by omega
  have z1 : (i : Int) < (C.length : Int) := by omega
  have g0 : U.cell? ⟨X, 0, none⟩ = some (.int .i64 0) := cellB HB.out
  have g1 : U.cell? ⟨X, 1, none⟩ = some (.int .i64 0) := cellB HB.out
  have f0 := frozen_of HB.out 0
  have f1 := frozen_of HB.out 1
  clear h hh
  generalize (C[i]).a = a at *
  generalize (C[i]).k = k at *
  go_enter Try.func18, Try.ntmps18
  go_upto_region 1 with fail
  rw [HU.out.1, HU.out.2]
  clear HU
  go_wp2_with fail
  refine P1.mono ?_
  rintro e w1 ⟨rfl, hw⟩
  have hw2 := hw.symm
  subst hw2
  clear hw P1
  go_wp2_with fail
  (try simp only [Exit.inBlock, Exit.then])
  refine bodyPost_ret (results_cell_row rfl _ _ X 35 #[.int .i64 a, .int .i64 k] (0, 0) _ rfl (block_set (block_set HB.out 0 _) 1 _) Try.underlying35 rfl (by kernel_rfl)) rfl ?_
  exact ⟨rfl, (HK.out.1.setCell (Or.inr HK.out.2) _).setCell (Or.inr HK.out.2) _⟩

end Go.Proofs.Ytlecpeofjabndaa
