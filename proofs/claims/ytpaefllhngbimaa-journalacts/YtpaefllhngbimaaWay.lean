/-
  The map of what is on its way: what a lookup finds, what a store makes of it.
-/
import Derived.Test.YtpaefllhngbimaaLight
import Derived.Maps.RangeRun
namespace Go.Proofs.Ytpaefllhngbimaa
open Go.RowKit
open Go.ChangeMaps (setBlock)

abbrev Wy := List (Nat × Option (List Int))

def wget : Wy → Nat → Option (Option (List Int))
  | [], _ => none
  | x :: r, l => if x.1 = l then some x.2 else wget r l

def wput : Wy → Nat → Option (List Int) → Wy
  | [], l, h => [(l, h)]
  | x :: r, l, h => if x.1 = l then (l, h) :: r else x :: wput r l h

def wenc (x : Nat × Option (List Int)) : Value × Value := (Value.int .i64 (x.1 : Int), wv x.2)

/-- Where it is found. -/
def wat : Wy → Nat → Nat
  | [], _ => 0
  | x :: r, l => if x.1 = l then 0 else wat r l + 1

theorem wget_none {W : Wy} {l : Nat} : wget W l = none ↔ l ∉ W.map Prod.fst := by
  induction W with
  | nil => simp [wget]
  | cons x r ih =>
    simp only [wget, List.map_cons, List.mem_cons, not_or]
    by_cases h : x.1 = l
    · simp [h]
    · rw [if_neg h, ih]; exact ⟨fun h2 => ⟨fun e => h e.symm, h2⟩, fun h2 => h2.2⟩

theorem wget_mem {W : Wy} {l : Nat} {h : Option (List Int)} (hg : wget W l = some h) : (l, h) ∈ W := by
  induction W with
  | nil => simp [wget] at hg
  | cons x r ih =>
    simp only [wget] at hg
    by_cases hx : x.1 = l
    · rw [if_pos hx] at hg; cases hg; subst hx; simp
    · rw [if_neg hx] at hg; exact List.mem_cons_of_mem _ (ih hg)

theorem wget_of_mem {W : Wy} (hn : (W.map Prod.fst).Nodup) {l : Nat} {h : Option (List Int)} (hm : (l, h) ∈ W) : wget W l = some h := by
  induction W with
  | nil => cases hm
  | cons x r ih =>
    simp only [List.map_cons, List.nodup_cons] at hn
    simp only [wget]
    rcases List.mem_cons.1 hm with e | e
    · subst e; simp
    · rw [if_neg (fun e2 => hn.1 (by rw [e2]; exact List.mem_map.2 ⟨_, e, rfl⟩))]; exact ih hn.2 e

theorem wget_wput (W : Wy) (l k : Nat) (h : Option (List Int)) : wget (wput W l h) k = if k = l then some h else wget W k := by
  induction W with
  | nil => simp only [wput, wget]; by_cases e : l = k <;> simp [e, eq_comm]
  | cons x r ih =>
    simp only [wput, wget]
    by_cases hx : x.1 = l
    · rw [if_pos hx]; simp only [wget]
      by_cases e : l = k
      · simp [e]
      · rw [if_neg e, if_neg (fun e2 => e e2.symm), if_neg (fun e2 => e (by omega))]
    · rw [if_neg hx]; simp only [wget, ih]
      by_cases e : x.1 = k
      · rw [if_pos e, if_pos e, if_neg (by omega)]
      · rw [if_neg e, if_neg e]

theorem wput_fst (W : Wy) (l : Nat) (h : Option (List Int)) : (wput W l h).map Prod.fst = if l ∈ W.map Prod.fst then W.map Prod.fst else W.map Prod.fst ++ [l] := by
  induction W with
  | nil => simp [wput]
  | cons x r ih =>
    simp only [wput]
    by_cases hx : x.1 = l
    · simp [hx]
    · rw [if_neg hx]
      simp only [List.map_cons, ih, List.mem_cons]
      by_cases e : l ∈ r.map Prod.fst
      · rw [if_pos e, if_pos (Or.inr e)]
      · rw [if_neg e, if_neg (by rintro (e2 | e2); exact hx e2.symm; exact e e2)]; simp

theorem wput_mem {W : Wy} {l : Nat} {h : Option (List Int)} {x : Nat × Option (List Int)} (hx : x ∈ wput W l h) : x ∈ W ∨ x = (l, h) := by
  induction W with
  | nil => simp only [wput, List.mem_singleton] at hx; exact Or.inr hx
  | cons y r ih =>
    simp only [wput] at hx
    by_cases hy : y.1 = l
    · rw [if_pos hy] at hx
      rcases List.mem_cons.1 hx with e | e
      · exact Or.inr e
      · exact Or.inl (List.mem_cons_of_mem _ e)
    · rw [if_neg hy] at hx
      rcases List.mem_cons.1 hx with e | e
      · subst e; exact Or.inl (by simp)
      · rcases ih e with e | e
        · exact Or.inl (List.mem_cons_of_mem _ e)
        · exact Or.inr e

theorem WayOk.put {n : Nat} {W : Wy} (h : WayOk n W) {l : Nat} (hl : 8 * l + 8 ≤ n) {v : Option (List Int)} (hv : ∀ ws, v = some ws → ws.length = 8) : WayOk n (wput W l v) := by
  refine ⟨?_, fun x hx => ?_⟩
  · rw [wput_fst]
    by_cases e : l ∈ W.map Prod.fst
    · rw [if_pos e]; exact h.1
    · rw [if_neg e, List.nodup_append]
      refine ⟨h.1, by simp, fun a ha b hb e2 => ?_⟩
      simp only [List.mem_singleton] at hb
      subst e2; subst hb; exact e ha
  · rcases wput_mem hx with e | e
    · exact h.2 x e
    · subst e; exact ⟨hl, hv⟩

theorem isKey_int (l : Int) : Instr.sameNow (.int .i64) (.int .i64 l) (.int .i64 l) = some true := by simp [Instr.sameNow]

theorem findNow_way (l : Nat) : ∀ (es : List MapEntry) (W : Wy) (i : Nat), es.map (fun e => (e.key, e.val)) = W.map wenc →
    Instr.findNow (.int .i64) (.int .i64 (l : Int)) es i = some ((wget W l).map fun h => (i + wat W l, wv h))
  | [], [], i, _ => by simp [Instr.findNow, wget]
  | [], _ :: _, _, h => by simp at h
  | _ :: _, [], _, h => by simp at h
  | e :: es, x :: W, i, h => by
    simp only [List.map_cons, List.cons.injEq, wenc, Prod.mk.injEq] at h
    obtain ⟨⟨hk, hv⟩, hr⟩ := h
    have hr' : es.map (fun e => (e.key, e.val)) = W.map wenc := hr
    simp only [Instr.findNow, hk, Instr.sameNow, if_true, wget, wat]
    by_cases hx : x.1 = l
    · subst hx
      simp [hv]
    · have : ((l : Int) == (x.1 : Int)) = false := by simp; omega
      simp only [this, if_neg hx]
      rw [findNow_way l es W (i + 1) hr']
      cases wget W l <;> simp <;> omega

theorem run_findKey_way (l : Nat) (es : Array MapEntry) (W : Wy) (w : World) (h : es.toList.map (fun e => (e.key, e.val)) = W.map wenc) :
    (Instr.findKey 3 (.int .i64 (l : Int)) es.toList).run Try.prog w = .ok ((wget W l).map fun h => (wat W l, wv h)) w := by
  have := findNow_way l es.toList W 0 h
  simp only [Nat.zero_add] at this
  simp [Instr.findKey, run_underlying Try.underlying3, this]

theorem run_checkKey_way (l : Int) (e : Bool) (n : Nat) (w : World) : (Instr.checkKey e (n + 1) 3 (.int .i64 l)).run Try.prog w = .ok () w :=
  MapKept.run_checkKey Try.underlying3 (by simp [MapKept.IsKey]) e n

/-- What a lookup gives. -/
def wfound (W : Wy) (l : Nat) : Value := match wget W l with
  | some h => wv h
  | none => .nilIface

theorem run_lookup_way {w : World} {mv : Value} {W : Wy} (h : WayIs w mv W) (l : Nat) : (Instr.lookup 53 mv (.int .i64 (l : Int)) false).run Try.prog w = .ok (wfound W l) w := by
  rcases h with ⟨rfl, rfl⟩ | ⟨r, es, c, rfl, hr, hes, _⟩
  · have := run_findKey_way l #[] [] w (by simp)
    simp [wget] at this
    simp [Instr.lookup, run_underlying Try.underlying53, run_checkKey_way, this, wfound, wget]
  · have := run_findKey_way l es W w hes
    simp [Instr.lookup, run_underlying Try.underlying53, MapKept.run_getObj_map hr, run_checkKey_way, this, wfound]
    cases hg : wget W l <;> simp

theorem wput_new {W : Wy} {l : Nat} (h : Option (List Int)) (hg : wget W l = none) : wput W l h = W ++ [(l, h)] := by
  induction W with
  | nil => rfl
  | cons x r ih =>
    simp only [wget] at hg
    by_cases hx : x.1 = l
    · rw [if_pos hx] at hg; cases hg
    · rw [if_neg hx] at hg; simp only [wput, if_neg hx, ih hg, List.cons_append]

theorem wput_old {W : Wy} {l : Nat} (h h0 : Option (List Int)) (hg : wget W l = some h0) : wput W l h = W.set (wat W l) (l, h) ∧ wat W l < W.length ∧ ∃ x, W[wat W l]? = some x ∧ x.1 = l := by
  induction W with
  | nil => simp [wget] at hg
  | cons x r ih =>
    simp only [wget] at hg
    by_cases hx : x.1 = l
    · simp [wput, wat, hx]
    · rw [if_neg hx] at hg
      obtain ⟨h1, h2, h3⟩ := ih hg
      simp only [wput, wat, if_neg hx, List.set_cons_succ, h1, List.length_cons, List.getElem?_cons_succ]
      exact ⟨trivial, by omega, h3⟩

theorem run_update_way {w : World} {r : Nat} {es : Array MapEntry} {c : Nat} {W : Wy} (hr : w.heap[r]? = some (.map es c)) (hes : es.toList.map (fun e => (e.key, e.val)) = W.map wenc)
    (hn : (es.toList.map (·.born)).Nodup) (hc : ∀ e ∈ es.toList, e.born < c) (l : Nat) (h : Option (List Int)) :
    ∃ es' c', (Instr.mapUpdate 53 (.map (some r)) (.int .i64 (l : Int)) (wv h)).run Try.prog w = .ok () (setBlock w r (.map es' c')) ∧
      es'.toList.map (fun e => (e.key, e.val)) = (wput W l h).map wenc ∧ (es'.toList.map (·.born)).Nodup ∧ ∀ e ∈ es'.toList, e.born < c' := by
  have hf := run_findKey_way l es W w hes
  cases hg : wget W l with
  | none =>
    rw [hg] at hf
    refine ⟨es.push { key := .int .i64 (l : Int), val := wv h, born := c }, c + 1, ?_, ?_, ?_, ?_⟩
    · simp [Instr.mapUpdate, run_underlying Try.underlying53, MapKept.run_getObj_map hr, run_checkKey_way, hf, MapKept.run_setObj_map _ hr, setBlock]
    · simp only [Array.toList_push, List.map_append, hes, wput_new h hg]
      simp [wenc]
    · simp only [Array.toList_push, List.map_append, List.map_cons, List.map_nil, List.nodup_append]
      refine ⟨hn, by simp, fun a ha b hb e => ?_⟩
      simp only [List.mem_singleton] at hb
      obtain ⟨x, hx, hxa⟩ := List.mem_map.1 ha
      have := hc x hx
      omega
    · intro e he
      simp only [Array.toList_push, List.mem_append, List.mem_singleton] at he
      rcases he with he | he
      · have := hc e he; omega
      · subst he; simp
  | some h0 =>
    rw [hg] at hf
    obtain ⟨e1, e2, x, e3, e4⟩ := wput_old h h0 hg
    have hlen : es.toList.length = W.length := by have := congrArg List.length hes; simpa using this
    have hi : wat W l < es.size := by rw [← Array.length_toList, hlen]; exact e2
    have hkey : es[wat W l].key = .int .i64 (l : Int) := by
      have := congrArg (fun L => L[wat W l]?) hes
      simp only [List.getElem?_map, e3, Option.map_some] at this
      simp only [Array.getElem?_toList, Array.getElem?_eq_getElem hi, Option.map_some, Option.some.injEq, wenc, Prod.mk.injEq] at this
      rw [this.1, e4]
    have hstay : (Instr.keyThatStays ((es[wat W l]?.map (·.key)).getD (.int .i64 (l : Int))) (.int .i64 (l : Int))).run Try.prog w = .ok (.int .i64 (l : Int)) w := by
      simp [Array.getElem?_eq_getElem hi, hkey, Instr.keyThatStays, Instr.sameBits]
    refine ⟨es.modify (wat W l) fun e => { e with key := .int .i64 (l : Int), val := wv h }, c, ?_, ?_, ?_, ?_⟩
    · simp only [Option.map_some] at hf
      simp [Instr.mapUpdate, run_underlying Try.underlying53, MapKept.run_getObj_map hr, run_checkKey_way, hf, hstay, MapKept.run_setObj_map _ hr, setBlock]
    · rw [e1, List.map_set, ← hes]
      apply List.ext_getElem?
      intro j
      simp only [Array.toList_modify, List.getElem?_map, List.getElem?_set, List.length_map, List.getElem?_modify, wenc]
      by_cases hj : wat W l = j
      · subst hj
        simp [hi]
      · simp [hj]
    · have : (es.modify (wat W l) fun e => { e with key := .int .i64 (l : Int), val := wv h }).toList.map (·.born) = es.toList.map (·.born) := by
        apply List.ext_getElem?
        intro j
        simp only [Array.toList_modify, List.getElem?_map, List.getElem?_modify]
        cases es.toList[j]? with
        | none => rfl
        | some e => simp; split <;> rfl
      rw [this]; exact hn
    · intro e he
      simp only [Array.toList_modify] at he
      obtain ⟨j, hj⟩ := List.mem_iff_getElem?.1 he
      simp only [List.getElem?_modify] at hj
      cases hx : es.toList[j]? with
      | none => rw [hx] at hj; simp at hj
      | some y =>
        rw [hx] at hj
        have hy := hc y (List.mem_iff_getElem?.2 ⟨j, hx⟩)
        have hj' := Option.some.inj hj
        subst hj'
        split <;> exact hy

end Go.Proofs.Ytpaefllhngbimaa
