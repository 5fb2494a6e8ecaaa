/-
  arrive: what is on its way lasts, in whatever order the map is gone through.
-/
import Derived.Test.YtpaefllhngbimaaArr
namespace Go.Proofs.Ytpaefllhngbimaa
set_option maxRecDepth 10000
open Go.RowKit
open Go.ChangeMaps (setBlock)

theorem assert83_unch (v : Value) (w : World) : (Instr.typeAssert (.iface 83 v) 77 88 true).run Try.prog w = .ok (.tuple #[.agg #[.int .u64 0, .int .u64 0, .int .u64 0, .int .u64 0, .int .u64 0, .int .u64 0, .int .u64 0, .int .u64 0], .bool false]) w := by kernel_rfl
theorem assert83_held (v : Value) (w : World) : (Instr.typeAssert (.iface 88 v) 77 88 true).run Try.prog w = .ok (.tuple #[v, .bool true]) w := by kernel_rfl

/-- A Fence's work. -/
def Pm.fenced (M : Pm) : Pm := { M with lasts := M.arrived, way := [] }

set_option maxHeartbeats 400000 in
theorem arrive_nil {w : World} {p : Pl} {M : Pm} (h : MemIs w p M) (hm : p.mv = .map none) (hW : M.way = []) :
    Calls Try.prog 33 #[.pointer (some ⟨p.b, 0, none⟩)] w fun e w' => e = .returned (.tuple #[]) ∧ ∃ p', To w p w' p' ∧ MemIs w' p' M.fenced := by
  have c2 : w.cell? ⟨p.b, 2, none⟩ = some (.map none) := by rw [← hm]; simpa using h.cell 2
  have f2 := h.frozen 2
  have hlt := lt_of_heap h.main
  have hr := run_range_nilMap (P := Try.prog) w 53 3 77 Try.underlying53
  have hnx := fun ty => run_next_nilMap (P := Try.prog) w ty 0 0 #[]
  have hF : M.fenced = { M with way := [] } := by
    unfold Pm.fenced
    rw [← arriveBy_all M (fun _ => false) (by simp [hW, wget]), arriveBy_none M h.ok.len]
  have HX : Hid (_ ∧ _ ∧ _ ∧ _) := ⟨h, hm, hW, hF⟩
  clear hm hW hF
  go_enter Try.func33, Try.ntmps33
  go_wp2
  refine wp_loop_rounds 1 ?_
  rw [rounds_succ]
  go_wp2
  go_end0
  obtain ⟨h, hm, hW, hF⟩ := HX.out
  have hfin := (h.setWay (.map none) [] (Or.inl ⟨rfl, rfl⟩) (WayOk.nil _) (nodup_less h.apart)).kept0 ((Kept.refl _ _).alloc (.mapIter none 0 #[] 0))
  exact ⟨rfl, { p with mv := .map none }, ⟨rfl, ((Kept.refl _ _).setCell (by simp [Pl.blocks]) _).alloc _, fresh_mv (by simp [vb])⟩, by rw [hF]; exact hfin⟩

/-- How many entries the iterator in block it over the map in block r has left. -/
def leftN (w : World) (it r : Nat) : Nat := match w.heap[it]?, w.heap[r]? with
  | some (.mapIter _ _ seen _), some (.map es _) => (leftOf es seen).size
  | _, _ => 0

theorem leftN_of {w : World} {it r : Nat} {m : Option Nat} {a b c : Nat} {seen : Array Nat} {es : Array MapEntry} (h1 : w.heap[it]? = some (.mapIter m a seen b)) (h2 : w.heap[r]? = some (.map es c)) : leftN w it r = (leftOf es seen).size := by
  simp [leftN, h1, h2]

/-- What holds at the head of every round: the iterator, the map, the memory with the lines of D arrived. -/
structure Arr (w : World) (p : Pl) (M : Pm) (r : Nat) (es : Array MapEntry) (c : Nat) (wr : World) (seen : Array Nat) (D : Nat → Bool) : Prop where
  it : wr.heap[w.heap.size]? = some (.mapIter (some r) c seen c)
  map : wr.heap[r]? = some (.map es c)
  mem : MemIs wr p { M with lasts := M.arriveBy D }
  to : To w p wr p
  done : ∀ e ∈ es.toList, ∀ l : Nat, e.key = .int .i64 (l : Int) → (e.born ∈ seen ↔ D l = true)

theorem Arr.start {w : World} {p : Pl} {M : Pm} {r : Nat} {es : Array MapEntry} {c : Nat} (h : MemIs w p M) (hr : w.heap[r]? = some (.map es c)) :
    Arr w p M r es c (w.alloc (.mapIter (some r) c #[] c)) #[] (fun _ => false) where
  it := Go.heap_alloc_new _ _
  map := by rw [Below.heap_alloc _ _ _ (lt_of_heap hr)]; exact hr
  mem := by
    have := h.kept0 ((Kept.refl _ _).alloc (.mapIter (some r) c #[] c))
    rw [arriveBy_none M h.ok.len]
    exact this
  to := To.still ((Kept.refl _ _).alloc _)
  done := by simp

theorem mem_left {es : Array MapEntry} {seen : Array Nat} {e : MapEntry} (h : e ∈ (leftOf es seen).toList) : e ∈ es.toList ∧ e.born ∉ seen := by
  simp only [leftOf, Array.toList_filter, List.mem_filter] at h
  exact ⟨h.1, by simpa using h.2⟩

theorem left_push {es : Array MapEntry} {seen : Array Nat} {e : MapEntry} (h : e ∈ (leftOf es seen).toList) : (leftOf es (seen.push e.born)).size < (leftOf es seen).size := by
  have e1 : (leftOf es (seen.push e.born)).toList = (leftOf es seen).toList.filter (fun x => decide (x.born ≠ e.born)) := by
    simp only [leftOf, Array.toList_filter, List.filter_filter]
    apply List.filter_congr
    intro x _
    simp [Bool.and_comm]
  rw [← Array.length_toList, ← Array.length_toList, e1]
  have := List.length_filter_lt_length_iff_exists (p := fun x : MapEntry => decide (x.born ≠ e.born)) (l := (leftOf es seen).toList)
  exact this.2 ⟨e, h, by simp⟩

/-- An entry of the map, as the state has it. -/
theorem entry_of {es : List MapEntry} {W : Wy} (hes : es.map (fun e => (e.key, e.val)) = W.map wenc) {e : MapEntry} (he : e ∈ es) : ∃ x ∈ W, e.key = .int .i64 (x.1 : Int) ∧ e.val = wv x.2 := by
  have : (e.key, e.val) ∈ W.map wenc := by rw [← hes]; exact List.mem_map.2 ⟨e, he, rfl⟩
  obtain ⟨x, hx, h2⟩ := List.mem_map.1 this
  simp only [wenc, Prod.mk.injEq] at h2
  exact ⟨x, hx, h2.1.symm, h2.2.symm⟩

/-- Two entries of one key are one. -/
theorem entry_one {W : Wy} (hW : (W.map Prod.fst).Nodup) : ∀ {es : List MapEntry}, es.map (fun e => (e.key, e.val)) = W.map wenc → ∀ {e e' : MapEntry}, e ∈ es → e' ∈ es → e.key = e'.key → e = e' := by
  induction W with
  | nil => intro es hes e e' he; simp at hes; subst hes; cases he
  | cons x W ih =>
    intro es hes e e' he he' hk
    match es, hes with
    | y :: ys, hes =>
      simp only [List.map_cons, List.cons.injEq, wenc, Prod.mk.injEq] at hes
      obtain ⟨⟨hy, _⟩, hys⟩ := hes
      have hys' : ys.map (fun e => (e.key, e.val)) = W.map wenc := hys
      simp only [List.map_cons, List.nodup_cons] at hW
      have hno : ∀ z ∈ ys, z.key ≠ y.key := fun z hz e2 => by
        obtain ⟨u, hu, h1, _⟩ := entry_of hys' hz
        rw [h1, hy] at e2
        have : u.1 = x.1 := by have := (Value.int.inj e2).2; omega
        exact hW.1 (by rw [← this]; exact List.mem_map.2 ⟨u, hu, rfl⟩)
      rcases List.mem_cons.1 he with h1 | h1 <;> rcases List.mem_cons.1 he' with h2 | h2
      · rw [h1, h2]
      · subst h1; exact absurd hk.symm (hno _ h2)
      · subst h2; exact absurd hk (hno _ h1)
      · exact ih hW.2 hys' h1 h2 hk

theorem born_one : ∀ {es : List MapEntry}, (es.map (·.born)).Nodup → ∀ {e e' : MapEntry}, e ∈ es → e' ∈ es → e.born = e'.born → e = e' := by
  intro es
  induction es with
  | nil => intro _ e e' he; cases he
  | cons y ys ih =>
    intro hn e e' he he' hb
    simp only [List.map_cons, List.nodup_cons] at hn
    rcases List.mem_cons.1 he with h1 | h1 <;> rcases List.mem_cons.1 he' with h2 | h2
    · rw [h1, h2]
    · subst h1; exact absurd (List.mem_map.2 ⟨e', h2, hb.symm⟩) hn.1
    · subst h2; exact absurd (List.mem_map.2 ⟨e, h1, hb⟩) hn.1
    · exact ih hn.2 h1 h2 hb

/-- The iterator's step, with the memory beside it. -/
theorem Arr.stepped {w : World} {p : Pl} {M : Pm} {r : Nat} {es : Array MapEntry} {c : Nat} {wr w1 : World} {seen seen' : Array Nat} {D : Nat → Bool} (h : MemIs w p M) (hA : Arr w p M r es c wr seen D) (hw1 : w1 = wr ∨ w1 = wr.drew) (hne : r < w.heap.size) :
    MemIs (setBlock w1 w.heap.size (.mapIter (some r) c seen' c)) p { M with lasts := M.arriveBy D } ∧ To w p (setBlock w1 w.heap.size (.mapIter (some r) c seen' c)) p ∧
      (setBlock w1 w.heap.size (.mapIter (some r) c seen' c)).heap[w.heap.size]? = some (.mapIter (some r) c seen' c) ∧ (setBlock w1 w.heap.size (.mapIter (some r) c seen' c)).heap[r]? = some (.map es c) := by
  have hK : Kept [w.heap.size] wr (setBlock w1 w.heap.size (.mapIter (some r) c seen' c)) := by
    rcases hw1 with e | e
    · rw [e]; exact (Kept.refl _ _).setBlock (by simp) _
    · rw [e]; exact (Kept.refl _ _).drew.setBlock (by simp) _
  have hh : w1.heap = wr.heap := by rcases hw1 with e | e <;> rw [e] <;> rfl
  have hsz : w.heap.size < w1.heap.size := by rw [hh]; exact lt_of_heap hA.it
  refine ⟨hA.mem.kept hK ?_, ⟨rfl, hA.to.kept.trans hK (by simp), fun k hk => Or.inl hk⟩, setBlock_same _ hsz, ?_⟩
  · intro k hk hm
    simp only [List.mem_singleton] at hm
    have := h.blocks_lt k hk
    omega
  · rw [setBlock_other _ (by omega), hh]; exact hA.map

/-- One line more has arrived. -/
theorem Arr.more {w : World} {p : Pl} {M : Pm} {r : Nat} {es : Array MapEntry} {c : Nat} {wr wn W2 : World} {seen : Array Nat} {D : Nat → Bool} (hA : Arr w p M r es c wr seen D) {e : MapEntry} (he : e ∈ (leftOf es seen).toList)
    (hW : (M.way.map Prod.fst).Nodup) (hes : es.toList.map (fun e => (e.key, e.val)) = M.way.map wenc) (hn : (es.toList.map (·.born)).Nodup) (l : Nat) (hk : e.key = .int .i64 (l : Int))
    (h1 : MemIs wn p { M with lasts := M.arriveBy D }) (h2 : To w p wn p) (h3 : wn.heap[w.heap.size]? = some (.mapIter (some r) c (seen.push e.born) c)) (h4 : wn.heap[r]? = some (.map es c)) (hK : Kept [] wn W2) (hne : p.bl ≠ w.heap.size) (hr : p.bl ≠ r)
    (xs : List Int) (hx : xs.length = 8) (hl : 8 * l + 8 ≤ M.seen.length) (hxs : ∀ j, j < 8 → wordAt xs j = M.arrWord (8 * l + j)) :
    Arr w p M r es c (W2.setRow p.bl (row (setLine (M.arriveBy D) l xs) p.zl)) (seen.push e.born) (fun k => D k || decide (k = l)) := by
  have ho : ∀ k, k ≠ p.bl → (W2.setRow p.bl (row (setLine (M.arriveBy D) l xs) p.zl)).heap[k]? = W2.heap[k]? := fun k hk => by
    simp only [World.setRow, Array.getElem?_modify]
    rw [if_neg (fun e => hk e.symm)]
  have hm2 := (h1.kept0 hK).setLasts (setLine (M.arriveBy D) l xs) (by rw [setLine_length hx (by rw [arriveBy_length]; exact hl), arriveBy_length])
  refine ⟨?_, ?_, ?_, ⟨rfl, ?_, fun k hk => Or.inl hk⟩, ?_⟩
  · rw [ho _ hne.symm, hK.block _ (lt_of_heap h3) (by simp)]; exact h3
  · rw [ho _ hr.symm, hK.block _ (lt_of_heap h4) (by simp)]; exact h4
  · rw [← arriveBy_more M D l xs hx hl hxs]; exact hm2
  · exact (h2.kept.trans hK (by simp)).setRow (by simp [Pl.blocks]) _
  · intro e' he' l' hl'
    obtain ⟨hee, hse⟩ := mem_left he
    simp only [Array.mem_push, Bool.or_eq_true, decide_eq_true_eq]
    rw [hA.done e' he' l' hl']
    constructor
    · rintro (h5 | h5)
      · exact Or.inl h5
      · right
        have : e' = e := born_one hn he' hee h5
        subst this
        rw [hk] at hl'
        have := Value.int.inj hl'
        omega
    · rintro (h5 | h5)
      · exact Or.inl h5
      · right
        subst h5
        rw [entry_one hW hes he' hee (by rw [hl', hk])]

set_option maxHeartbeats 1000000 in
theorem arrive_some {w : World} {p : Pl} {M : Pm} (h : MemIs w p M) (r : Nat) (es : Array MapEntry) (c : Nat) (hm : p.mv = .map (some r)) (hr : w.heap[r]? = some (.map es c))
    (hes : es.toList.map (fun e => (e.key, e.val)) = M.way.map wenc) (hn : (es.toList.map (·.born)).Nodup) (hc : ∀ e ∈ es.toList, e.born < c) :
    Calls Try.prog 33 #[.pointer (some ⟨p.b, 0, none⟩)] w fun e w' => e = .returned (.tuple #[]) ∧ ∃ p', To w p w' p' ∧ MemIs w' p' M.fenced := by
  have c2 : w.cell? ⟨p.b, 2, none⟩ = some (.map (some r)) := by rw [← hm]; simpa using h.cell 2
  have hlt := lt_of_heap h.main
  have hrun := run_range_map (P := Try.prog) w 53 3 77 r es c Try.underlying53 hr
  have HX : Hid (_ ∧ _ ∧ _ ∧ _ ∧ _ ∧ _) := ⟨h, hm, hr, hes, hn, hc⟩
  clear h hm hr hes hn hc
  go_enter Try.func33, Try.ntmps33
  go_wp2
  go_loopw [2] (fun _ wr => ∃ seen D, Hid (Arr w p M r es c wr seen D)) (fun _ wr => leftN wr w.heap.size r)
  case atStart => exact ⟨#[], fun _ => false, Arr.start HX.out.1 HX.out.2.2.1⟩
  case round =>
    obtain ⟨seen, D, HA⟩ := hrel
    clear c2 hlt hrun
    rcases run_next_at (P := Try.prog) wr 0 w.heap.size r c c seen es c HA.out.it HA.out.map HX.out.2.2.2.2.2 (Nat.le_refl _) with ⟨h0, hnx⟩ | ⟨e, he, w1, hw1, hnx⟩
    · have c2 : wr.cell? ⟨p.b, 2, none⟩ = some p.mv := by simpa using HA.out.mem.cell 2
      have f2 := HA.out.mem.frozen 2
      have H0 : Hid (_ = _) := h0
      clear h0
      go_wp2
      go_end0
      obtain ⟨h, hm, hr, hes, hn, hc⟩ := HX.out
      have hA := HA.out
      have hF : M.fenced = { M with lasts := M.arriveBy D, way := [] } := by
        unfold Pm.fenced
        rw [arriveBy_all M D]
        intro l hl
        cases hw : wget M.way l with
        | none => exact absurd hw hl
        | some x =>
          have hmem := wget_mem hw
          have : wenc (l, x) ∈ es.toList.map (fun e => (e.key, e.val)) := by rw [hes]; exact List.mem_map.2 ⟨_, hmem, rfl⟩
          obtain ⟨e, he, h2⟩ := List.mem_map.1 this
          simp only [wenc, Prod.mk.injEq] at h2
          refine (hA.done e he l h2.1).1 ?_
          have hz := H0.out
          rw [← Array.length_toList] at hz
          have hnil := List.length_eq_zero_iff.1 hz
          simp only [leftOf, Array.toList_filter, List.filter_eq_nil_iff] at hnil
          simpa using hnil e he
      have hfin := hA.mem.setWay (.map none) [] (Or.inl ⟨rfl, rfl⟩) (WayOk.nil _) (nodup_less hA.mem.apart)
      exact ⟨rfl, { p with mv := .map none }, hA.to.trans ⟨rfl, (Kept.refl _ _).setCell (by simp [Pl.blocks]) _, fresh_mv (by simp [vb])⟩, by rw [hF]; exact hfin⟩
    · obtain ⟨hee, hse⟩ := mem_left he
      obtain ⟨⟨l, hv⟩, hxW, hkey, hval⟩ := entry_of HX.out.2.2.2.1 hee
      have hst := Arr.stepped (seen' := seen.push e.born) HX.out.1 HA.out hw1 (lt_of_heap HX.out.2.2.1)
      obtain ⟨wn, hwn⟩ : ∃ wn, wn = setBlock w1 w.heap.size (.mapIter (some r) c (seen.push e.born) c) := ⟨_, rfl⟩
      rw [← hwn] at hst hnx
      have hent := run_entry_at (P := Try.prog) wn w.heap.size r c seen es c e hst.2.2.1 hst.2.2.2 hee HX.out.2.2.2.2.1
      simp only [] at hkey hval
      rw [hkey, hval] at hnx hent
      have c0 : wn.cell? ⟨p.b, 0, none⟩ = some (.slice (some ⟨p.bs, 0, none⟩) M.seen.length (M.seen.length + p.zs.length)) := by simpa using hst.1.cell 0
      have c1 : wn.cell? ⟨p.b, 1, none⟩ = some (.slice (some ⟨p.bl, 0, none⟩) M.seen.length (M.seen.length + p.zl.length)) := by simpa using hst.1.cell 1
      have hi := HX.out.1.ok.hi
      have hl := (HX.out.1.ok.way.2 _ hxW).1
      have hlt := lt_of_heap hst.1.main
      have HST : Hid (_ ∧ _ ∧ _ ∧ _ ∧ _ ∧ _) := ⟨hst, he, hxW, hkey, hval, hwn⟩
      clear hst he hee hse hxW hkey hval hwn hw1
      cases hv with
      | none =>
        simp only [wv] at hnx hent
        have ha := assert83_unch
        simp only [] at hl
        go_wp2_with fail
        refine (lineOf_any _ _ _ _ _ (by omega) (by omega) (by omega) (by omega)).mono ?_
        rintro e2 w' ⟨rfl, hw'⟩
        have hw' := hw'.symm
        subst hw'
        go_wp2_with fail
        refine (lineOf_any _ _ _ _ _ (by omega) (by omega) (by omega) (by omega)).mono ?_
        rintro e2 w' ⟨rfl, hw'⟩
        have hw' := hw'.symm
        subst hw'
        rw [Int.toNat_natCast]
        obtain ⟨O, hO⟩ : ∃ O, O = Obj.cells #[.int .u64 0, .int .u64 0, .int .u64 0, .int .u64 0, .int .u64 0, .int .u64 0, .int .u64 0, .int .u64 0] 88 := ⟨_, rfl⟩
        have hm2 := HST.out.1.1.kept0 ((Kept.refl _ _).alloc O)
        have hcp := run_copy_line (W := wn.alloc O) hm2.lasts l (by rw [arriveBy_length]; exact hl) (lineList M.seen l) (lineList_length hl) p.bs (8 * l) (M.seen.length + p.zl.length - 8 * l) (M.seen.length + p.zs.length - 8 * l) 3 (fun j hj => by
          rw [wordAt_lineList hj]; exact row_word (xs := M.seen) hm2.seen (by omega))
        rw [hO] at hcp
        clear hm2
        go_wp2
        rw [← hO]
        go_roundw
        case rel =>
          obtain ⟨hst, he, hxW, hkey, hval, hwn⟩ := HST.out
          obtain ⟨h, hm, hr, hes, hn, hc⟩ := HX.out
          have hnd := h.ne
          refine ⟨seen.push e.born, fun k => D k || decide (k = l), ?_⟩
          refine HA.out.more he h.ok.way.1 hes hn l hkey hst.1 hst.2.1 hst.2.2.1 hst.2.2.2 ((Kept.refl _ _).alloc O) (by have := lt_of_heap h.lasts; omega) (fun e3 => hnd.2.2.2.2.2.2.2.1 (by rw [hm, e3]; simp [vb])) (lineList M.seen l) (lineList_length hl) hl (fun j hj => ?_)
          rw [wordAt_lineList hj]
          have := wget_of_mem h.ok.way.1 hxW
          simp [Pm.arrWord, show (8 * l + j) / 8 = l from by omega, this]
        case measure =>
          obtain ⟨hst, he, hxW, hkey, hval, hwn⟩ := HST.out
          obtain ⟨h, hm, hr, hes, hn, hc⟩ := HX.out
          have hnd := h.ne
          have ho : ∀ k, k ≠ p.bl → k < wn.heap.size → ((wn.alloc O).setRow p.bl (row (setLine (M.arriveBy D) l (lineList M.seen l)) p.zl)).heap[k]? = wn.heap[k]? := fun k hk hk2 => by
            simp only [World.setRow, Array.getElem?_modify]
            rw [if_neg (fun e => hk e.symm)]
            exact Below.heap_alloc _ _ _ hk2
          rw [leftN_of HA.out.it HA.out.map, leftN_of (by rw [ho _ (by have := lt_of_heap h.lasts; omega) (lt_of_heap hst.2.2.1)]; exact hst.2.2.1) (by rw [ho _ (fun e3 => hnd.2.2.2.2.2.2.2.1 (by rw [hm, ← e3]; simp [vb])) (lt_of_heap hst.2.2.2)]; exact hst.2.2.2)]
          exact left_push he
      | some ws =>
        have h8 : ws.length = 8 := (HX.out.1.ok.way.2 _ HST.out.2.2.1).2 ws rfl
        simp only [wv] at hnx hent
        rw [u64s8 h8] at hnx hent
        have ha := assert83_held
        simp only [] at hl
        go_wp2_with fail
        refine (lineOf_any _ _ _ _ _ (by omega) (by omega) (by omega) (by omega)).mono ?_
        rintro e2 w' ⟨rfl, hw'⟩
        have hw' := hw'.symm
        subst hw'
        go_wp2_with fail
        refine (lineOf_any _ _ _ _ _ (by omega) (by omega) (by omega) (by omega)).mono ?_
        rintro e2 w' ⟨rfl, hw'⟩
        have hw' := hw'.symm
        subst hw'
        rw [Int.toNat_natCast]
        obtain ⟨O, hO⟩ : ∃ O, O = Obj.cells #[.int .u64 (wordAt ws 0), .int .u64 (wordAt ws 1), .int .u64 (wordAt ws 2), .int .u64 (wordAt ws 3), .int .u64 (wordAt ws 4), .int .u64 (wordAt ws 5), .int .u64 (wordAt ws 6), .int .u64 (wordAt ws 7)] 88 := ⟨_, rfl⟩
        have hm2 := HST.out.1.1.kept0 ((Kept.refl _ _).alloc O)
        have hO2 : O = Obj.cells (row ws []) 88 := by rw [hO, ← u64s8 h8]; simp [row, u64s]
        have hcp := run_copy_line (W := wn.alloc O) hm2.lasts l (by rw [arriveBy_length]; exact hl) ws h8 wn.heap.size 0 (M.seen.length + p.zl.length - 8 * l) 8 3 (fun j hj => by
          rw [Nat.zero_add, hO2, World.cell?_alloc_at _ _ _ _ rfl]
          simp [row, wordAt, List.getD, h8, hj])
        clear hO2
        rw [hO] at hcp
        clear hm2
        go_wp2
        rw [← hO]
        go_roundw
        case rel =>
          obtain ⟨hst, he, hxW, hkey, hval, hwn⟩ := HST.out
          obtain ⟨h, hm, hr, hes, hn, hc⟩ := HX.out
          have hnd := h.ne
          refine ⟨seen.push e.born, fun k => D k || decide (k = l), ?_⟩
          refine HA.out.more he h.ok.way.1 hes hn l hkey hst.1 hst.2.1 hst.2.2.1 hst.2.2.2 ((Kept.refl _ _).alloc O) (by have := lt_of_heap h.lasts; omega) (fun e3 => hnd.2.2.2.2.2.2.2.1 (by rw [hm, e3]; simp [vb])) ws h8 hl (fun j hj => ?_)
          have := wget_of_mem h.ok.way.1 hxW
          simp [Pm.arrWord, show (8 * l + j) / 8 = l from by omega, this, show (8 * l + j) % 8 = j from by omega]
        case measure =>
          obtain ⟨hst, he, hxW, hkey, hval, hwn⟩ := HST.out
          obtain ⟨h, hm, hr, hes, hn, hc⟩ := HX.out
          have hnd := h.ne
          have ho : ∀ k, k ≠ p.bl → k < wn.heap.size → ((wn.alloc O).setRow p.bl (row (setLine (M.arriveBy D) l ws) p.zl)).heap[k]? = wn.heap[k]? := fun k hk hk2 => by
            simp only [World.setRow, Array.getElem?_modify]
            rw [if_neg (fun e => hk e.symm)]
            exact Below.heap_alloc _ _ _ hk2
          rw [leftN_of HA.out.it HA.out.map, leftN_of (by rw [ho _ (by have := lt_of_heap h.lasts; omega) (lt_of_heap hst.2.2.1)]; exact hst.2.2.1) (by rw [ho _ (fun e3 => hnd.2.2.2.2.2.2.2.1 (by rw [hm, ← e3]; simp [vb])) (lt_of_heap hst.2.2.2)]; exact hst.2.2.2)]
          exact left_push he

end Go.Proofs.Ytpaefllhngbimaa
