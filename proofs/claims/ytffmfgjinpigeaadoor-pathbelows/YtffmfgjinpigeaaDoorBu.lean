/-
  A builder of texts that path.join makes for itself: its state, a contract for each of its functions; join.
-/
import Derived.Test.YtffmfgjinpigeaaDoorCl
namespace Go.Proofs.YtffmfgjinpigeaaDoor
open Go.RowKit
set_option linter.unusedVariables false

/-- The builder that was made in w0, in the first new block: whom it knows as itself (p), and the bytes that it holds (t), in a block behind its own. -/
structure Bd (w0 W : World) (p : Option Addr) (t : ByteArray) : Prop where
  kept : Kept [] w0 W
  here : ∃ v, W.heap[w0.heap.size]? = some (.cells #[.pointer p, v] 54 (0, 0)) ∧ W.ownsRow (w0.heap.size + 1) 5 1 v t.size (Lib.strCells t)

/-- It is new, or knows itself. -/
def Own (w0 : World) (p : Option Addr) : Prop := p = none ∨ p = some ⟨w0.heap.size, 0, none⟩

theorem Bd.made (w : World) : Bd w (w.alloc (.cells #[.pointer none, .slice none 0 0] 54)) none ⟨#[]⟩ :=
  ⟨(Kept.refl [] w).alloc _, .slice none 0 0, heap_alloc_new w _, World.ownsRow_nil _ _ _ _⟩

theorem Bd.lt {w0 W : World} {p : Option Addr} {t : ByteArray} (h : Bd w0 W p t) : w0.heap.size < W.heap.size := by
  obtain ⟨v, hv, -⟩ := h.here
  exact lt_of_heap hv

theorem row_same {W W' : World} {H : Nat} {v : Value} {n : Nat} {xs : List Value} (h : W.ownsRow H 5 1 v n xs) (hk : ∀ k, v.ownBlock = some k → W'.heap[k]? = W.heap[k]?) : W'.ownsRow H 5 1 v n xs := by
  refine ⟨h.1, ?_⟩
  rcases h.2 with hn | ⟨g, cap, cur, rfl, hb, hgg, rest⟩
  · exact .inl hn
  · exact .inr ⟨g, cap, cur, rfl, hb, by rw [hk g rfl]; exact hgg, rest⟩

theorem cells_set {w : World} {b i : Nat} {cs : Array Value} {t : TypeId} (h : w.heap[b]? = some (.cells cs t (0, 0))) (v : Value) : (w.setCell ⟨b, i, none⟩ v).heap[b]? = some (.cells (cs.setIfInBounds i v) t (0, 0)) := by
  simp [World.setCell, Array.getElem?_modify, h]

theorem set_other {w : World} {b i k : Nat} {v : Value} (h : k ≠ b) : (w.setCell ⟨b, i, none⟩ v).heap[k]? = w.heap[k]? := Below.heap_setCell _ _ _ _ (by simpa using h)

/-- Its first cell is turned. -/
theorem Bd.know {w0 W : World} {p : Option Addr} {t : ByteArray} (h : Bd w0 W p t) (q : Option Addr) : Bd w0 (W.setCell ⟨w0.heap.size, 0, none⟩ (.pointer q)) q t := by
  obtain ⟨v, hv, hr⟩ := h.here
  refine ⟨h.kept.setCell (Or.inr (Nat.le_refl _)) _, v, ?_, row_same hr fun k hk => set_other (by have := (hr.lt k hk).1; omega)⟩
  rw [cells_set hv]
  rfl

/-- A new row of bytes is laid into it, in a world that has grown by that row. -/
theorem Bd.hold {w0 W W' : World} {p : Option Addr} {v v' : Value} {t : ByteArray} (hk : Kept [] w0 W) (hv : W.heap[w0.heap.size]? = some (.cells #[.pointer p, v] 54 (0, 0))) (hH : ∀ k, v.ownBlock = some k → w0.heap.size + 1 ≤ k) (hg : W.grownBy W' v.ownBlock)
    (hr : W'.ownsRow (w0.heap.size + 1) 5 1 v' t.size (Lib.strCells t)) : W'.heap[w0.heap.size]? = some (.cells #[.pointer p, v] 54 (0, 0)) ∧ Bd w0 (W'.setCell ⟨w0.heap.size, 1, none⟩ v') p t := by
  have h1 : W'.heap[w0.heap.size]? = some (.cells #[.pointer p, v] 54 (0, 0)) := by
    rw [hg.block _ (lt_of_heap hv) fun e => by have := hH _ e.symm; omega]
    exact hv
  refine ⟨h1, (hk.grown hg fun k hk => Or.inr (by have := hH k hk; omega)).setCell (Or.inr (Nat.le_refl _)) _, v', ?_, row_same hr fun k hk => set_other (by have := (hr.lt k hk).1; omega)⟩
  rw [cells_set h1]
  rfl

theorem size54 : (Tryd.prog.info? 54).map (·.size) = some 2 := by kernel_rfl
theorem lies54 : liesAt Tryd.prog Tryd.prog.depth 54 (2 / Tryd.prog.cellsOf 54) 0 54 1 = true := by kernel_rfl

/-- internal/abi.NoEscape gives its argument back. -/
theorem no_escape (x : Value) (w : World) : (callFunc 38 #[x]).run Tryd.prog w = .ok (.value x) w := by
  rw [run_callFunc_extern Tryd.func38 (by kernel_rfl) (by kernel_rfl) (by kernel_rfl) (e := Extern.AbiNoEscape.same) (by kernel_rfl), Lib.run_noEscape]
  rfl

set_option maxRecDepth 100000 in
set_option maxHeartbeats 2000000 in
/-- copyCheck: it knows itself behind it. -/
theorem d_know {w0 W : World} {p : Option Addr} {t : ByteArray} (h : Bd w0 W p t) (hp : Own w0 p) :
    Calls Tryd.prog 36 #[.pointer (some ⟨w0.heap.size, 0, none⟩)] W fun e W' => e = .returned (.tuple #[]) ∧ Bd w0 W' (some ⟨w0.heap.size, 0, none⟩) t := by
  obtain ⟨v, hv, -⟩ := h.here
  obtain ⟨b, hb⟩ : ∃ b, w0.heap.size = b := ⟨_, rfl⟩
  have HN : Hid (Bd w0 (W.setCell ⟨w0.heap.size, 0, none⟩ (.pointer (some ⟨w0.heap.size, 0, none⟩))) (some ⟨w0.heap.size, 0, none⟩) t) := h.know _
  have HB : Hid (Bd w0 W p t) := h
  obtain ⟨j, hj, hjs⟩ := Option.map_eq_some_iff.1 size54
  have hc : W.cell? ⟨b, 0, none⟩ = some (.pointer p) := by rw [← hb, cell_of_row _ _ _ _ _ _ hv]; rfl
  have hsh : W.shape? b = some (54, 2) := by rw [← hb]; unfold World.shape?; rw [hv]; rfl
  have hfz : W.frozen? ⟨b, 0, none⟩ = false := by rw [← hb]; exact Lib.frozen_of_heap hv 0
  rw [hb] at HN ⊢
  unfold Own at hp
  rw [hb] at hp
  clear hb hv h
  rcases hp with rfl | rfl
  · have c1 : (convert 52 66 (.pointer (some ⟨b, 0, none⟩))).run Tryd.prog W = .ok (.pointer (some ⟨b, 0, none⟩)) W := Lib.run_to_unsafe W ⟨b, 0, none⟩ Tryd.underlying52 Tryd.underlying66 hj (by rw [hjs]; decide) hsh (show (0 : Nat) < 2 by omega)
    have c2 := no_escape (.pointer (some ⟨b, 0, none⟩)) W
    have c3 : (convert 66 52 (.pointer (some ⟨b, 0, none⟩))).run Tryd.prog W = .ok (.pointer (some ⟨b, 0, none⟩)) W := Lib.run_from_unsafe W ⟨b, 0, none⟩ Tryd.underlying66 Tryd.underlying52 hj hsh lies54
    clear hj hjs hsh HB
    go_enter Tryd.func36, Tryd.ntmps36
    go_wp2_with fail
    go_end0
    exact ⟨rfl, HN.out⟩
  · have c4 : ∀ W : World, (binOp .neq 52 (.pointer (some ⟨b, 0, none⟩)) (.pointer (some ⟨b, 0, none⟩))).run Tryd.prog W = .ok (.bool false) W := fun W => Lib.run_neq_ptr_same W _ Tryd.underlying52 hj
    clear hj hjs hsh HN
    go_enter Tryd.func36, Tryd.ntmps36
    go_wp2_with fail
    go_end0
    exact ⟨rfl, HB.out⟩

theorem cells_app (a b : ByteArray) : Lib.strCells (a ++ b) = Lib.strCells a ++ Lib.strCells b := by
  unfold Lib.strCells
  rw [ByteArray.data_append, Array.toList_append, List.map_append]

/-- A byte behind a row of bytes. -/
theorem push_byte {W : World} {H : Nat} {v : Value} {t : ByteArray} (h : W.ownsRow H 5 1 v t.size (Lib.strCells t)) (hH : H ≤ W.heap.size) (hz : t.size + 1 ≤ 1000000) (ty : TypeId) :
    ∃ v' W', (Builtin.append_ #[40, 40] ty #[v, .slice (some ⟨W.heap.size, 0, none⟩) 1 1]).run Tryd.prog (W.alloc (.cells #[.int .u8 47] 5)) = .ok v' W' ∧ W'.ownsRow H 5 1 v' (t ++ ⟨#[47]⟩).size (Lib.strCells (t ++ ⟨#[47]⟩)) ∧ W.grownBy W' v.ownBlock := by
  obtain ⟨i0, hi, hz0, hz1, hz2⟩ := info_parts info5
  have h2 : (W.alloc (.cells #[.int .u8 47] 5)).ownsRow H 5 1 v t.size (Lib.strCells t) := h.alloc _
  obtain ⟨v', W', hr, h3, h4, -, -⟩ := run_append_own_at (P := Tryd.prog) (W.alloc (.cells #[.int .u8 47] 5)) H 40 ty 5 i0 (.int .u8 0) 1 1 Tryd.underlying40 hi hz0 hz1 hz2 rfl (by omega) v t.size (Lib.strCells t) h2 ⟨W.heap.size, 0, none⟩ 1 1 [.int .u8 47] rfl
    (fun j u hu => by
      have hj : j = 0 := by
        rcases Nat.lt_or_ge j 1 with h1 | h1
        · omega
        · rw [List.getElem?_eq_none (by simpa using h1)] at hu; cases hu
      subst hj
      have ea : (⟨W.heap.size, 0, none⟩ : Addr).add 0 = ⟨W.heap.size, 0, none⟩ := by unfold Addr.add; split <;> simp_all
      rw [ea, cell_of_row _ _ _ _ _ _ (heap_alloc_new W _)]
      exact hu)
    (by simp [Value.oneCell']) (by unfold maxLen; omega) (by omega) (by simp; omega)
  refine ⟨v', W', hr, ?_, ⟨h4.os, h4.tape, h4.output, by have := h4.size; simp at this; omega, fun k hk hne => ?_⟩⟩
  · rw [ByteArray.size_append, cells_app]
    exact h3
  · rw [h4.block k (by simp; omega) hne]
    exact Below.heap_alloc _ _ _ hk

set_option maxRecDepth 100000 in
set_option maxHeartbeats 2000000 in
/-- WriteByte of a stroke. -/
theorem d_stroke {w0 W : World} {p : Option Addr} {t : ByteArray} (h : Bd w0 W p t) (hp : Own w0 p) (hz : t.size + 1 ≤ 1000000) :
    Calls Tryd.prog 29 #[.pointer (some ⟨w0.heap.size, 0, none⟩), .int .u8 47] W fun e W' => e = .returned .nilIface ∧ Bd w0 W' (some ⟨w0.heap.size, 0, none⟩) (t ++ ⟨#[47]⟩) := by
  have HK : Hid (_) := d_know h hp
  clear h
  go_enter Tryd.func29, Tryd.ntmps29
  go_wp2_with fail
  refine Calls.mono HK.out ?_
  rintro e W1 ⟨rfl, hB⟩
  obtain ⟨v, hv, hr⟩ := hB.here
  have hlt := hB.lt
  obtain ⟨v', W2, ha, hr2, hg⟩ := push_byte hr (by omega) hz 40
  obtain ⟨hv2, hE⟩ := Bd.hold hB.kept hv (fun k hk => (hr.lt k hk).1) hg hr2
  have HE : Hid (_) := hE
  have HA : Hid (_) := ha
  have d1 : W1.cell? ⟨w0.heap.size, 1, none⟩ = some v := by rw [cell_of_row _ _ _ _ _ _ hv]; rfl
  have d2 : W2.cell? ⟨w0.heap.size, 1, none⟩ = some v := by rw [cell_of_row _ _ _ _ _ _ hv2]; rfl
  have d3 : W2.frozen? ⟨w0.heap.size, 1, none⟩ = false := Lib.frozen_of_heap hv2 1
  obtain ⟨va, vn, vc, hva⟩ : ∃ a n c, v' = .slice a n c := by
    rcases hr2.2 with ⟨h1, -⟩ | ⟨g, cap, cur, h1, -⟩
    · exact ⟨_, _, _, h1⟩
    · exact ⟨_, _, _, h1⟩
  subst hva
  clear hv hr hr2 hg hv2 hE ha HK hB
  go_wp2_with (at_builtin; refine wpList_append_run _ rfl _ _ 40 40 rfl _ _ rfl rfl _ _ HA.out ?_)
  go_ret
  exact ⟨rfl, HE.out⟩

set_option maxRecDepth 100000 in
set_option maxHeartbeats 2000000 in
/-- WriteString. -/
theorem d_text {w0 W : World} {p : Option Addr} {t : ByteArray} (s : ByteArray) (h : Bd w0 W p t) (hp : Own w0 p) (hz : t.size + s.size ≤ 1000000) :
    Calls Tryd.prog 30 #[.pointer (some ⟨w0.heap.size, 0, none⟩), .string s] W fun e W' => (∃ u, e = .returned u) ∧ Bd w0 W' (some ⟨w0.heap.size, 0, none⟩) (t ++ s) := by
  have HK : Hid (_) := d_know h hp
  clear h
  obtain ⟨i0, hi, hz0, hz1, hz2⟩ := info_parts info5
  go_enter Tryd.func30, Tryd.ntmps30
  go_wp2_with fail
  refine Calls.mono HK.out ?_
  rintro e W1 ⟨rfl, hB⟩
  obtain ⟨v, hv, hr⟩ := hB.here
  have hlt := hB.lt
  obtain ⟨v', W2, ha, hr2, hg, -⟩ := Lib.run_append_own_string (P := Tryd.prog) W1 (w0.heap.size + 1) 40 9 40 5 i0 Tryd.underlying40 Tryd.underlying9 hi hz0 hz1 hz2 v t.size (Lib.strCells t) hr s (by unfold maxLen; omega) (by omega) (by omega)
  rw [← ByteArray.size_append, ← cells_app] at hr2
  obtain ⟨hv2, hE⟩ := Bd.hold hB.kept hv (fun k hk => (hr.lt k hk).1) hg hr2
  have HE : Hid (_) := hE
  have HA : Hid (_) := ha
  have d1 : W1.cell? ⟨w0.heap.size, 1, none⟩ = some v := by rw [cell_of_row _ _ _ _ _ _ hv]; rfl
  have d2 : W2.cell? ⟨w0.heap.size, 1, none⟩ = some v := by rw [cell_of_row _ _ _ _ _ _ hv2]; rfl
  have d3 : W2.frozen? ⟨w0.heap.size, 1, none⟩ = false := Lib.frozen_of_heap hv2 1
  obtain ⟨va, vn, vc, hva⟩ : ∃ a n c, v' = .slice a n c := by
    rcases hr2.2 with ⟨h1, -⟩ | ⟨g, cap, cur, h1, -⟩
    · exact ⟨_, _, _, h1⟩
    · exact ⟨_, _, _, h1⟩
  subst hva
  clear hv hr hr2 hg hv2 hE ha HK hB hi hz0 hz1 hz2
  go_wp2_with (at_builtin; refine wpList_append_run _ rfl _ _ 40 9 rfl _ _ rfl rfl _ _ HA.out ?_)
  go_ret2
  exact ⟨⟨_, rfl⟩, HE.out⟩

set_option maxRecDepth 100000 in
set_option maxHeartbeats 2000000 in
/-- String, of a builder that holds a byte. -/
theorem d_string {w0 W : World} {p : Option Addr} {t : ByteArray} (h : Bd w0 W p t) (hz : 0 < t.size) :
    Calls Tryd.prog 31 #[.pointer (some ⟨w0.heap.size, 0, none⟩)] W fun e W' => e = .returned (.string t) ∧ Kept [] w0 W' := by
  obtain ⟨v, hv, hr⟩ := h.here
  have hkept := h.kept
  obtain ⟨g, c, rfl, hg1, hg2, hcells⟩ : ∃ g c, v = .slice (some ⟨g, 0, none⟩) t.size c ∧ w0.heap.size ≤ g ∧ (∃ m, W.shape? g = some (5, m) ∧ t.size ≤ m) ∧ t.size ≤ c ∧ t.size ≤ maxLen ∧ ∀ j x, t.data.toList[j]? = some x → W.cell? ((⟨g, 0, none⟩ : Addr).add j) = some (.int .u8 x.toNat) := by
    rcases hr.2 with ⟨-, h0⟩ | ⟨g, cap, cur, rfl, hb, hgg, h4, h5, h6, h7⟩
    · omega
    · refine ⟨g, cap, rfl, by omega, ⟨cur.size, by unfold World.shape?; rw [hgg], by omega⟩, h4, by omega, fun j x hx => ?_⟩
      refine hr.cells (g := g) rfl j _ ?_
      unfold Lib.strCells
      rw [List.getElem?_map, hx]
      rfl
  obtain ⟨m, hsh, hm⟩ := hg2
  obtain ⟨hc, hmax, hcell⟩ := hcells
  have hlen : t.data.toList.length = t.size := by simp
  have hus := Lib.run_unsafeString_row (P := Tryd.prog) W.drew 63 3 9 5 Tryd.underlying63 cells5 g m hsh t.data.toList (by intro e; rw [e] at hlen; simp at hlen; omega) (by omega) (by unfold maxLen at hmax; omega) hcell
  rw [hlen, show (⟨t.data.toList.toArray⟩ : ByteArray) = t from rfl] at hus
  have hsd : (Builtin.unsafeSliceData_ #[40] 63 #[.slice (some ⟨g, 0, none⟩) t.size c]).run Tryd.prog W.drew = .ok (.pointer (some ⟨g, 0, none⟩)) W.drew := Lib.run_unsafeSliceData_row _ _ _ _ _ _ (by omega)
  have hc1 : W.drew.cell? ⟨w0.heap.size, 1, none⟩ = some (.slice (some ⟨g, 0, none⟩) t.size c) := by
    have h1 : W.drew.heap[w0.heap.size]? = some (.cells #[.pointer p, .slice (some ⟨g, 0, none⟩) t.size c] 54 (0, 0)) := hv
    rw [cell_of_row _ _ _ _ _ _ h1]
    rfl
  have HE : Hid (Kept [] w0 (W.drew.freeze ⟨g, 0, none⟩ t.size)) := by
    have h1 := Lib.below_freeze (B := w0.heap.size) (hkept.drew.below (Nat.le_refl _) (by simp)) (p := ⟨g, 0, none⟩) hg1 t.size
    exact kept_of_below h1
  clear hv hr hkept h hg1 hsh hm hc hmax hcell hlen
  go_enter Tryd.func31, Tryd.ntmps31
  go_wp2_with fail
  go_region
  all_goals (go_wp2_with fail; go_ret; exact ⟨rfl, HE.out⟩)

theorem joinL_append (a b : List ByteArray) : joinL (a ++ b) = joinL a ++ joinL b := by
  induction a with
  | nil => exact (ByteArray.empty_append).symm
  | cons p a ih => rw [List.cons_append, joinL, joinL, ih, app_assoc, app_assoc]

theorem tx_at {xs : List ByteArray} {i : Nat} (h : i < xs.length) : xs[i]? = some (tx xs i) := by
  unfold tx
  rw [List.getD_eq_getElem?_getD, List.getElem?_eq_getElem h]
  rfl

theorem joinL_take {l : List ByteArray} {j : Nat} (h : j < l.length) : joinL (l.take (j + 1)) = joinL (l.take j) ++ (⟨#[47]⟩ ++ tx l j) := by
  rw [List.take_add_one, tx_at h, joinL_append]
  congr 1
  simp only [Option.toList, joinL, app_nil]

set_option maxRecDepth 100000 in
set_option maxHeartbeats 2000000 in
theorem p_join (a : Option Addr) (n c : Nat) (l : List ByteArray) (w : World) (hn : n = l.length) (h4 : n ≤ 4) (ha : Ss w a l) (hz : ∀ j, (tx l j).size ≤ 12) :
    Calls Tryd.prog 24 #[.slice a n c] w fun e w' => e = .returned (.string (joinP l)) ∧ Kept [] w w' := by
  obtain ⟨z, hZ⟩ : ∃ z, joinP l = z := ⟨_, rfl⟩
  rw [hZ]
  rcases Nat.eq_zero_or_pos n with h0 | h0
  · have HZ : Hid (⟨#[47]⟩ = z) := by
      show _ = z
      rw [← hZ]
      have : l = [] := List.eq_nil_of_length_eq_zero (by omega)
      rw [this]
      rfl
    subst h0
    clear ha hZ hn hz
    go_enter Tryd.func24, Tryd.ntmps24
    go_wp2_with fail
    go_ret
    exact ⟨congrArg (fun z => Ending.returned (.string z)) HZ.out, Kept.refl _ _⟩
  · have i0 : ¬ (n : Int) = 0 := by omega
    have i0b : ((n : Int) == 0) = false := by simpa using i0
    have HA : Hid (Ss w a l ∧ n = l.length ∧ (∀ j, (tx l j).size ≤ 12) ∧ joinP l = z) := ⟨ha, hn, hz, hZ⟩
    clear ha hn hz hZ
    go_enter Tryd.func24, Tryd.ntmps24
    go_wp2_with fail
    go_loopw [11] (fun s wr => ∃ (j : Nat), s = .int .i64 (j : Int) ∧ j ≤ n ∧ Hid (∃ p, Own w p ∧ Bd w wr p (joinL (l.take j)) ∧ (joinL (l.take j)).size ≤ 13 * j)) (fun s _ => (n - intOf s).toNat)
    case atStart => exact ⟨0, rfl, by omega, none, Or.inl rfl, Bd.made w, Nat.zero_le _⟩
    case round =>
      obtain ⟨j, rfl, hj, HJ⟩ := hrel
      by_cases hlt : j < n
      · have i1 : (j : Int) < (n : Int) := by omega
        obtain ⟨p, hp, hB, hs⟩ := HJ.out
        obtain ⟨b1, o1, rfl, c1⟩ := (HA.out.1.kept hB.kept).2 j (by have := HA.out.2.1; omega)
        have hnext := joinL_take (l := l) (j := j) (by have := HA.out.2.1; omega)
        have hxz := HA.out.2.2.1 j
        obtain ⟨x, hx⟩ : ∃ x, tx l j = x := ⟨_, rfl⟩
        obtain ⟨q, hq⟩ : ∃ q, joinL (l.take j) = q := ⟨_, rfl⟩
        rw [hx] at c1 hxz hnext
        rw [hq] at hB hs hnext
        have HW : Hid (_) := d_stroke hB hp (by omega)
        have HX : Hid (_) := hnext
        clear hB hp HJ hx hq hnext
        go_wp2_with fail
        refine Calls.mono HW.out ?_
        rintro e w1 ⟨rfl, hB1⟩
        have HV : Hid (_) := d_text x hB1 (Or.inr rfl) (by rw [ByteArray.size_append, one_47]; omega)
        clear hB1 HW
        go_wp2_with fail
        refine Calls.mono HV.out ?_
        rintro e w2 ⟨⟨u, rfl⟩, hB2⟩
        have HE : Hid (Bd w w2 (some ⟨w.heap.size, 0, none⟩) (joinL (l.take (j + 1))) ∧ (joinL (l.take (j + 1))).size ≤ 13 * (j + 1)) := by
          rw [HX.out]
          refine ⟨by rw [← app_assoc]; exact hB2, ?_⟩
          rw [ByteArray.size_append, ByteArray.size_append, one_47]; omega
        clear hB2 HV HX
        go_wp2_with fail
        go_roundw
        case rel => exact ⟨j + 1, by go_num, by omega, _, Or.inr rfl, HE.out⟩
        case measure => simp [intOf]; omega
      · have i1 : ¬ (j : Int) < (n : Int) := by omega
        obtain ⟨p, hp, hB, hs⟩ := HJ.out
        have hL : joinL (l.take j) = z := by
          have h1 := HA.out.2.1
          have h2 := HA.out.2.2.2
          unfold joinP at h2
          rw [if_neg (by intro e; rw [e] at h1; simp at h1; omega)] at h2
          rw [List.take_of_length_le (by omega)]
          exact h2
        have hz0 : 0 < z.size := by
          rw [← hL]
          have h1 := HA.out.2.1
          rw [List.take_of_length_le (by omega)]
          cases l with
          | nil => simp at h1; omega
          | cons p l' => rw [(join_first p l').2]; omega
        rw [hL] at hB
        have HS : Hid (_) := d_string hB hz0
        clear hB hp HJ hL hz0 hs
        go_wp2_with fail
        refine Calls.mono HS.out ?_
        rintro e w1 ⟨rfl, hk⟩
        have HE : Hid (_) := hk
        clear hk HS
        go_wp2_with fail
        go_ret
        exact ⟨rfl, HE.out⟩

end Go.Proofs.YtffmfgjinpigeaaDoor
