/-
  Package oplog: Merge.
-/
import Derived.Test.YtlecpeofjabndaaLm
namespace Go.Proofs.Ytlecpeofjabndaa
open Go.RowKit
set_option linter.unusedVariables false
set_option linter.unusedSimpArgs false

/-- How many records in all. -/
def totR (L : List (List Rec)) : Nat := (L.map List.length).sum

/-- One walk over the heads. -/
def mergeF : Nat → List (List Rec) → List Rec
  | 0, _ => []
  | n + 1, L => match leastN L L.length with
    | none => []
    | some m => match L[m]? with
      | some (r :: t) => r :: mergeF n (L.set m t)
      | _ => []

/-- All records, by their stamps. -/
def mergeR (L : List (List Rec)) : List Rec := mergeF (totR L) L

theorem sum_set (l : List Nat) : ∀ i x, (h : i < l.length) → (l.set i x).sum + l[i] = l.sum + x := by
  induction l with
  | nil => intro i x h; simp at h
  | cons y l ih =>
    intro i x h
    cases i with
    | zero => simp; omega
    | succ i =>
      have := ih i x (by simpa using h)
      simp only [List.set_cons_succ, List.sum_cons, List.getElem_cons_succ]
      omega

theorem totR_set {L : List (List Rec)} {m : Nat} (hm : m < L.length) {r : Rec} {t : List Rec} (h : L[m]? = some (r :: t)) : totR L = totR (L.set m t) + 1 := by
  have := sum_set (L.map List.length) m t.length (by simpa using hm)
  have e : (L.map List.length)[m]'(by simpa using hm) = t.length + 1 := by
    rw [List.getElem_map]
    rw [List.getElem?_eq_getElem hm] at h
    rw [Option.some.inj h]
    rfl
  rw [e] at this
  unfold totR
  rw [List.map_set]
  omega

theorem totR_pos {L : List (List Rec)} {m : Nat} (hm : m < L.length) {r : Rec} {t : List Rec} (h : L[m]? = some (r :: t)) : totR L = totR L - 1 + 1 := by
  have := totR_set hm h; omega

theorem mergeR_none {L : List (List Rec)} (h : leastN L L.length = none) : mergeR L = [] := by
  unfold mergeR
  cases totR L with
  | zero => rfl
  | succ n => simp [mergeF, h]

theorem mergeR_some {L : List (List Rec)} {m : Nat} (h : leastN L L.length = some m) {r : Rec} {t : List Rec} (hr : L[m]? = some (r :: t)) : mergeR L = r :: mergeR (L.set m t) := by
  have hm := (leastN_mem L L.length m (Nat.le_refl _) h).1
  unfold mergeR
  rw [totR_set hm hr]
  simp [mergeF, h, hr]

def lenS : Value → Nat
  | .slice _ n _ => n
  | _ => 0

theorem totR_le {L : List (List Rec)} (h : ∀ l ∈ L, l.length ≤ 256) : totR L ≤ L.length * 256 := by
  unfold totR
  induction L with
  | nil => simp
  | cons x L ih =>
    have h1 := h x (by simp)
    have h2 := ih (fun l hl => h l (by simp [hl]))
    simp
    omega

theorem info44 : (Try.prog.info? 44).map (fun i => (i.zero, i.size, i.bytes)) = some (some (.slice none 0 0), 1, 24) := by kernel_rfl

theorem make_rests (n : Nat) (h : n ≤ 8) (w : World) : (Instr.makeSlice 47 (.int .i64 (n : Int)) (.int .i64 (n : Int))).run Try.prog w = .ok (.slice (some ⟨w.heap.size, 0, none⟩) n n) (w.alloc (.cells (List.replicate n (Value.slice none 0 0)).toArray 44 (0, 0))) := by
  obtain ⟨i0, hi, hz0, hz1, hz2⟩ := info_parts info44
  have := run_make (P := Try.prog) w 47 44 i0 _ Try.underlying47 hi hz0 .i64 .i64 n n (by omega) (by omega) (by rw [hz2]; omega) (by omega)
  rw [this]
  have e : madeCells (Value.slice none 0 0).cells ((n : Int).toNat * i0.size) = (List.replicate n (Value.slice none 0 0)).toArray := by
    apply Array.ext'
    rw [hz1]
    simp [toList_madeCells_one, Value.cells]
  rw [e]
  simp

/-- The first j rows copied. -/
def fillV (C : List Co) (j : Nat) : List Value := (List.range C.length).map fun i => if i < j then (C[i]?.map Co.v).getD (.slice none 0 0) else .slice none 0 0

theorem fillV_length (C : List Co) (j : Nat) : (fillV C j).length = C.length := by simp [fillV]

theorem fillV_zero (C : List Co) : fillV C 0 = List.replicate C.length (Value.slice none 0 0) := by
  apply List.ext_getElem (by simp [fillV])
  intro i h1 h2
  simp [fillV]

theorem fillV_step {C : List Co} {j : Nat} (hj : j < C.length) : (fillV C j).set j (C[j]).v = fillV C (j + 1) := by
  apply List.ext_getElem (by simp [fillV])
  intro i h1 h2
  by_cases e : j = i
  · subst e; simp [fillV, hj]
  · rw [List.getElem_set_ne e]
    simp only [fillV, List.getElem_map, List.getElem_range]
    by_cases c : i < j
    · rw [if_pos c, if_pos (by omega)]
    · rw [if_neg c, if_neg (by omega)]

theorem fillV_all (C : List Co) : fillV C C.length = C.map Co.v := by
  apply List.ext_getElem (by simp [fillV])
  intro i h1 h2
  have hi : i < C.length := by simpa [fillV] using h1
  simp [fillV, hi]

theorem Lo.ra {H : Nat} {w : World} {p g : Nat} {C : List Co} (h : Lo H w p g C) : RA w (C.map Co.v) (C.map Co.R) :=
  ⟨by simp, fun c hc hv => by
    have hc' : c < C.length := by simpa using hc
    obtain ⟨a, cap, e, h1, h2, h3⟩ := (h.each c hc').slice
    have eR : (C.map Co.R)[c] = (C[c]).R := by simp
    have eV : (C.map Co.v)[c] = (C[c]).v := by simp
    rw [eV]
    simp only [eR]
    exact ⟨a, cap, e, h1, h2, h.len c hc', h.small c hc', fun j hj => by
      obtain ⟨g', e2, h4⟩ := h3 j hj
      exact ⟨g', 0, e2, fun m u hu => by rw [Nat.zero_add]; exact h4 m u hu⟩⟩⟩

/-- A row goes on behind its head. -/
theorem RA.next {w : World} {V : List Value} {L : List (List Rec)} (h : RA w V L) {m : Nat} (hm : m < L.length) {r : Rec} {t : List Rec} (hr : L[m]? = some (r :: t)) {b off cap : Nat} (hV : V[m]? = some (.slice (some ⟨b, off, none⟩) (t.length + 1) cap)) (a : Option Addr) (ha : 0 < t.length → a = some ⟨b, off + 10, none⟩) : RA w (V.set m (.slice a t.length (cap - 1))) (L.set m t) := by
  obtain ⟨b', off', cap', e1, e2, e3, e4, e5, e6, e7, e8⟩ := h.head hm hr
  rw [e1] at hV
  simp only [Option.some.injEq, Value.slice.injEq, Addr.mk.injEq, and_true, true_and] at hV
  obtain ⟨⟨rfl, rfl⟩, rfl⟩ := hV
  refine ⟨by simp [h.1], fun c hc hv => ?_⟩
  have hc' : c < L.length := by simpa using hc
  have hv' : c < V.length := by simpa using hv
  by_cases e : m = c
  · subst e
    have eL : (L.set m t)[m] = t := by simp
    have eV : (V.set m (Value.slice a t.length (cap' - 1)))[m] = .slice a t.length (cap' - 1) := by simp
    rw [eV]
    simp only [eL]
    refine ⟨a, cap' - 1, rfl, by omega, by omega, by omega, e6, fun j hj => ⟨b', off' + 10, ha (by omega), fun q u hu => ?_⟩⟩
    exact e8 j hj q u hu
  · have eL : (L.set m t)[c] = L[c] := by rw [List.getElem_set_ne e]
    have eV : (V.set m (Value.slice a t.length (cap' - 1)))[c] = V[c] := by rw [List.getElem_set_ne e]
    rw [eV]
    simp only [eL]
    exact h.2 c hc' hv'

set_option maxRecDepth 100000 in
set_option maxHeartbeats 8000000 in
theorem p_merge {H : Nat} {w : World} {p g : Nat} {C : List Co} (h : Lo H w p g C) :
    Calls Try.prog 20 #[.pointer (some ⟨p, 0, none⟩)] w fun e w' => ∃ v, e = .returned v ∧ Rr w' w.heap.size v (mergeR (C.map Co.R)) ∧ Kept [] w w' := by
  obtain ⟨n, hN⟩ : ∃ n, C.length = n := ⟨_, rfl⟩
  have hn8 := h.chi
  rw [hN] at hn8
  have hm := make_rests n hn8 w
  obtain ⟨U, B, HU, HK, HB⟩ := box1 w (List.replicate n (Value.slice none 0 0)).toArray 44
  rw [HU.out.1, HU.out.2] at hm
  have HL : Hid (Lo H w p g C ∧ C.length = n) := ⟨h, hN⟩
  have HU2 : Hid (B = w.heap.size) := HU.out.2.symm
  have c0 := h.box
  rw [hN] at c0
  have c1 := (h.kept0 HK.out.1).box
  rw [hN] at c1
  have HB0 : Hid (U.heap[B]? = some (.cells (fillV C 0).toArray 44 (0, 0))) := by rw [fillV_zero, hN]; exact HB.out
  have hpB : p ≠ B := by have := lt_of_heap h.main; have := HU2.out; omega
  have hgB : g ≠ B := by have := lt_of_heap h.arr; have := HU2.out; omega
  clear h hN HU HB
  go_enter Try.func20, Try.ntmps20
  go_upto_region 4 with fail
  clear hm c0
  go_wp2_with fail
  clear c1
  go_loopw [21] (fun i wr => ∃ j : Nat, i = .int .i64 (j : Int) ∧ j ≤ n ∧ Hid (wr.heap[B]? = some (.cells (fillV C j).toArray 44 (0, 0)) ∧ Kept [] w wr)) (fun i _ => (n - intOf i).toNat)
  case atStart => exact ⟨0, rfl, by omega, HB0.out, HK.out.1⟩
  case round =>
    obtain ⟨j, rfl, hj, HJ⟩ := hrel
    by_cases hlt : j < n
    · have j0 : (0 : Int) ≤ (j : Int) := by omega
      have j1 : (j : Int) < (n : Int) := by omega
      have hjC : j < C.length := by rw [HL.out.2]; exact hlt
      obtain ⟨av, cv, hv, -⟩ := (HL.out.1.each j hjC).slice
      obtain ⟨q0, q1, q2⟩ := (HL.out.1.kept0 HJ.out.2).cells hjC
      rw [hv] at q0
      generalize (C[j]).a = ca at *
      generalize (C[j]).k = ck at *
      obtain ⟨lr, hlr⟩ : ∃ lr, (C[j]).R.length = lr := ⟨_, rfl⟩
      rw [hlr] at q0 hv
      have HV : Hid ((C[j]).v = .slice av lr cv) := hv
      obtain ⟨U2, X, HU3, HK3, HB3⟩ := box1 wr #[.slice av lr cv, .int .i64 ca, .int .i64 ck] 66
      have HBj : Hid (U2.heap[B]? = some (.cells (fillV C j).toArray 44 (0, 0))) := (HK3.out.1.block _ (lt_of_heap HJ.out.1) (by simp)).trans HJ.out.1
      have HX : Hid (wr.heap.size = X) := HU3.out.2
      clear hv hlr
      go_upto_region 7 with fail
      rw [HU3.out.1, HU3.out.2]
      clear HU3
      have x0 : U2.cell? ⟨X, 0, none⟩ = some (.slice av lr cv) := cellB HB3.out
      have y0 : U2.cell? ⟨B, j, none⟩ = some (.slice none 0 0) := by
        rw [cellB HBj.out]
        have : j < (fillV C j).length := by rw [fillV_length]; exact hjC
        simp [fillV, hjC]
      have y1 := frozen_of HBj.out j
      have HN : Hid ((U2.setCell ⟨B, j, none⟩ (.slice av lr cv)).heap[B]? = some (.cells (fillV C (j + 1)).toArray 44 (0, 0)) ∧ Kept [] w (U2.setCell ⟨B, j, none⟩ (.slice av lr cv))) := by
        refine ⟨?_, ?_⟩
        · rw [block_set HBj.out, ← fillV_step hjC, HV.out]; simp
        · exact (HJ.out.2.trans HK3.out.1 (by simp)).setCell (Or.inr (Nat.le_of_eq HU2.out.symm)) _
      go_wp2_with fail
      go_roundw
      case rel => exact ⟨j + 1, by go_num, by omega, HN.out⟩
      case measure => simp [intOf]; omega
    · have hjn : j = n := by omega
      subst hjn
      have j1 : ¬ (j : Int) < (j : Int) := by omega
      have HRA : Hid (RA w (C.map Co.v) (C.map Co.R) ∧ (C.map Co.R).length = j) := ⟨HL.out.1.ra, by simp [HL.out.2]⟩
      have HBn : Hid (wr.heap[B]? = some (.cells (C.map Co.v).toArray 44 (0, 0))) := by rw [← fillV_all, HL.out.2]; exact HJ.out.1
      have P := p_least (HRA.out.1.kept HJ.out.2) HBn.out (by rw [HRA.out.2]; omega) j HRA.out.2.symm
      have HT : Hid (totR (C.map Co.R) ≤ 2048) := by
        have := totR_le (L := C.map Co.R) (fun l hl => by
          obtain ⟨i, hi, rfl⟩ := List.getElem_of_mem hl
          have := HL.out.1.len i (by simpa using hi)
          simpa using this)
        rw [HRA.out.2] at this
        show _ ≤ _
        omega
      go_wp2_with fail
      refine P.mono ?_
      rintro e w2 ⟨rfl, k2⟩
      have HK2 : Hid (w2.heap[B]? = some (.cells (C.map Co.v).toArray 44 (0, 0)) ∧ Kept [] w w2) := ⟨(k2.block _ (lt_of_heap HBn.out) (by simp)).trans HBn.out, HJ.out.2.trans k2 (by simp)⟩
      clear P k2 HJ HBn
      go_wp2_with fail
      go_loopw [6, 7] (fun u c wx => ∃ (L : List (List Rec)) (V : List Value) (M : List Rec) (ua : Option Addr) (uc : Nat), u = .slice ua M.length uc ∧ c = .int .i64 (leastI L j) ∧ Hid (L.length = j ∧ RA w V L ∧ wx.heap[B]? = some (.cells V.toArray 44 (0, 0)) ∧ Rr wx (B + 1) (.slice ua M.length uc) M ∧ M ++ mergeR L = mergeR (C.map Co.R) ∧ M.length + totR L ≤ 2048 ∧ Kept [] w wx)) (fun u _ _ => (2048 - lenS u))
      case atStart => exact ⟨C.map Co.R, C.map Co.v, [], none, 0, rfl, rfl, HRA.out.2, HRA.out.1, HK2.out.1, Rr.nil _ _, rfl, by have := HT.out; simpa using this, HK2.out.2⟩
      case round =>
        obtain ⟨L, V, M, ua, uc, rfl, rfl, HX⟩ := hrel
        rcases hy : leastN L j with _ | m
        · have hI : leastI L j = -1 := by simp [leastI, hy]
          rw [hI]
          have HE : Hid (M = mergeR (C.map Co.R)) := by
            have e := HX.out.2.2.2.2.1
            rw [mergeR_none (by rw [HX.out.1]; exact hy), List.append_nil] at e
            exact e
          clear hI hy
          go_wp2_with fail
          go_ret
          exact ⟨_, rfl, by rw [← HE.out]; exact HX.out.2.2.2.1.low (by have := HU2.out; omega), HX.out.2.2.2.2.2.2⟩
        · obtain ⟨hmj, r, t, hz⟩ := leastN_mem L j m (by rw [HX.out.1]; exact Nat.le_refl _) hy
          have hmL : m < L.length := by rw [HX.out.1]; exact hmj
          have hI : leastI L j = (m : Int) := by simp [leastI, hy]
          rw [hI]
          have m0 : (0 : Int) ≤ (m : Int) := by omega
          have m1 : (m : Int) < (j : Int) := by omega
          obtain ⟨b, off, cap, h1, h2, h3, h4, h5, h6, h7, h8⟩ := HX.out.2.1.head hmL hz
          have HKx : Hid (Kept [] w wr) := HX.out.2.2.2.2.2.2
          have HMg : Hid (mergeR L = r :: mergeR (L.set m t) ∧ totR L = totR (L.set m t) + 1) := ⟨mergeR_some (by rw [HX.out.1]; exact hy) hz, totR_set hmL hz⟩
          have HRN : Hid (∀ a, (0 < t.length → a = some ⟨b, off + 10, none⟩) → RA w (V.set m (.slice a t.length (cap - 1))) (L.set m t)) := fun a ha => HX.out.2.1.next hmL hz h1 a ha
          have HSm : Hid (r.small) := h5
          have c0 : wr.cell? ⟨B, m, none⟩ = some (.slice (some ⟨b, off, none⟩) (t.length + 1) cap) := by rw [cellB HX.out.2.2.1]; simpa using h1
          have HmV : Hid (m < V.length) := by show _ < _; rw [HX.out.2.1.1]; exact hmL
          obtain ⟨tl, htl⟩ : ∃ tl, t.length = tl := ⟨_, rfl⟩
          rw [htl] at c0 h2 h4 HRN
          have hcv : cap ≤ 9223372036854775807 := by unfold maxLen at h3; omega
          have hM : M.length + 1 ≤ 2048 := by have := HX.out.2.2.2.2.2.1; have := HMg.out.2; omega
          have q0 : wr.cell? ⟨b, off, none⟩ = some (.int .i64 r.a) := HKx.out.cell (h7 0 _ rfl) (by simp)
          have q1 : wr.cell? ⟨b, off + 1, none⟩ = some (.int .i64 r.k) := HKx.out.cell (h7 1 _ rfl) (by simp)
          have q2 : wr.cell? ⟨b, off + 2, none⟩ = some (.int .i64 r.kind) := HKx.out.cell (h7 2 _ rfl) (by simp)
          have q3 : wr.cell? ⟨b, off + 3, none⟩ = some (.int .i64 r.core) := HKx.out.cell (h7 3 _ rfl) (by simp)
          have q4 : wr.cell? ⟨b, off + 4, none⟩ = some (.int .i64 r.fd) := HKx.out.cell (h7 4 _ rfl) (by simp)
          have q5 : wr.cell? ⟨b, off + 5, none⟩ = some (.int .i64 r.off) := HKx.out.cell (h7 5 _ rfl) (by simp)
          have q6 : wr.cell? ⟨b, off + 6, none⟩ = some (.int .i64 r.num) := HKx.out.cell (h7 6 _ rfl) (by simp)
          have q7 : wr.cell? ⟨b, off + 7, none⟩ = some (.string r.p1) := HKx.out.cell (h7 7 _ rfl) (by simp)
          have q8 : wr.cell? ⟨b, off + 8, none⟩ = some (.string r.p2) := HKx.out.cell (h7 8 _ rfl) (by simp)
          have q9 : wr.cell? ⟨b, off + 9, none⟩ = some (.string r.dat) := HKx.out.cell (h7 9 _ rfl) (by simp)
          obtain ⟨a, k, kind, core, fd, ofs, num, p1, p2, dat⟩ := r
          dsimp only at q0 q1 q2 q3 q4 q5 q6 q7 q8 q9
          clear hI hy hz h1 h3 h4 h5 h6 h7 h8
          go_wp2_with fail
          refine (p_copied a k kind core fd ofs num p1 p2 dat HSm.out _).mono ?_
          rintro e w3 ⟨rfl, k3⟩
          have HK3 : Hid (Kept [] wr w3) := k3
          obtain ⟨w4, Y, HY, HKY, HBY⟩ := box1 w3 #[.int .i64 a, .int .i64 k, .int .i64 kind, .int .i64 core, .int .i64 fd, .int .i64 ofs, .int .i64 num, .string p1, .string p2, .string dat] 57
          have HK4 : Hid (Kept [] wr w4) := HK3.out.trans HKY.out.1 (by simp)
          have hbY : ∀ j u, (Rec.cs ⟨a, k, kind, core, fd, ofs, num, p1, p2, dat⟩)[j]? = some u → w4.cell? ⟨Y, j, none⟩ = some u := fun j u hu => by rw [cellB HBY.out, ← hu]; simp [Rec.cs]
          have hBw : B < wr.heap.size := lt_of_heap HX.out.2.2.1
          obtain ⟨gn, cn, w5, hr5, rr5, gr5, hg5, -⟩ := append_rec (R := M) (v := .slice ua M.length uc) (HX.out.2.2.2.1.kept HK4.out (by simp)) (Nat.le_trans hBw HK4.out.size) Y ⟨a, k, kind, core, fd, ofs, num, p1, p2, dat⟩ hbY (by omega) 44
          have HAp : Hid ((Builtin.append_ #[44, 44] 44 #[.slice ua M.length uc, .slice (some ⟨Y, 0, none⟩) 1 1]).run Try.prog w4 = .ok (.slice (some ⟨gn, 0, none⟩) (M.length + 1) cn) w5) := hr5
          have HO : Hid (∀ x, (Value.slice ua M.length uc).ownBlock = some x → B + 1 ≤ x) := fun x hx => (HX.out.2.2.2.1.block x hx).1
          have HK5 : Hid (Kept (Value.slice ua M.length uc).ownBlock.toList wr w5) := (HK4.out.mono (by simp)).grown gr5 (fun x hx => Or.inl (by simpa using hx))
          have HB5 : Hid (w5.heap[B]? = some (.cells V.toArray 44 (0, 0))) := (HK5.out.block B hBw (fun hm => by have := HO.out B (by simpa using hm); omega)).trans HX.out.2.2.1
          have HKw5 : Hid (Kept [] w w5) := HKx.out.trans HK5.out (fun x hx => Or.inr (by have := HO.out x (by simpa using hx); have := HU2.out; omega))
          have HR5 : Hid (Rr w5 (B + 1) (.slice (some ⟨gn, 0, none⟩) (M.length + 1) cn) (M ++ [⟨a, k, kind, core, fd, ofs, num, p1, p2, dat⟩]) ∧ gn ≠ B) := ⟨rr5, by
            intro e
            rcases hg5 with h1 | h1
            · have := HO.out gn h1; omega
            · have := HK4.out.size; omega⟩
          clear k3 hbY hr5 rr5 gr5 hg5
          rw [← HY.out.1, ← HY.out.2] at HAp
          have c5 : w5.cell? ⟨B, m, none⟩ = some (.slice (some ⟨b, off, none⟩) (tl + 1) cap) := by rw [← c0, cellB HB5.out, cellB HX.out.2.2.1]
          have f5 := frozen_of HB5.out m
          clear c0 q0 q1 q2 q3 q4 q5 q6 q7 q8 q9
          go_upto_region 14 with (at_builtin; refine wpList_append_run _ rfl _ _ 44 44 rfl _ _ rfl rfl _ _ HAp.out ?_)
          by_cases hc : cap = 1
          · subst hc
            have ht0 : tl = 0 := by omega
            subst ht0
            rw [Nat.zero_add] at c5
            go_wp2_with fail
            obtain ⟨W6, hW6⟩ : ∃ W6, w5.setCell ⟨B, m, none⟩ (.slice (some ⟨b, off, none⟩) 0 0) = W6 := ⟨_, rfl⟩
            rw [hW6]
            have k6 : Kept [B] w5 W6 := by rw [← hW6]; exact (Kept.refl _ _).setCell (Or.inl (by simp)) _
            have HN6 : Hid ((L.set m t).length = j ∧ RA w (V.set m (.slice (some ⟨b, off, none⟩) 0 0)) (L.set m t) ∧ W6.heap[B]? = some (.cells (V.set m (.slice (some ⟨b, off, none⟩) 0 0)).toArray 44 (0, 0)) ∧ Rr W6 (B + 1) (.slice (some ⟨gn, 0, none⟩) (M.length + 1) cn) (M ++ [⟨a, k, kind, core, fd, ofs, num, p1, p2, dat⟩]) ∧ Kept [] w W6) := by
              refine ⟨by simpa using HX.out.1, HRN.out _ (fun h => by omega), ?_, ?_, ?_⟩
              · rw [← hW6, block_set HB5.out]; simp
              · exact HR5.out.1.kept k6 (fun x hx e => by
                  have hx' : x = B := by simpa using hx
                  simp [Value.ownBlock] at e
                  exact HR5.out.2 (e.trans hx'))
              · exact HKw5.out.trans k6 (fun x hx => Or.inr (by have hx' : x = B := by simpa using hx
                                                                have := HU2.out
                                                                omega))
            have P := p_least (HN6.out.2.1.kept HN6.out.2.2.2.2) HN6.out.2.2.1 (by rw [HN6.out.1]; omega) j HN6.out.1.symm
            clear hW6 k6 c5 f5
            refine P.mono ?_
            rintro e w7 ⟨rfl, k7⟩
            have HK7 : Hid (Kept [] W6 w7) := k7
            clear P k7
            go_wp2_with fail
            go_roundw
            case rel =>
              refine ⟨L.set m t, _, M ++ [⟨a, k, kind, core, fd, ofs, num, p1, p2, dat⟩], some ⟨gn, 0, none⟩, cn, by simp, rfl, HN6.out.1, HN6.out.2.1, (HK7.out.block _ (lt_of_heap HN6.out.2.2.1) (by simp)).trans HN6.out.2.2.1, ?_, ?_, ?_, HN6.out.2.2.2.2.trans HK7.out (by simp)⟩
              · have := HN6.out.2.2.2.1.kept HK7.out (by simp)
                rw [List.length_append]
                exact this
              · have := HX.out.2.2.2.2.1
                rw [HMg.out.1] at this
                rw [List.append_assoc]
                exact this
              · have := HX.out.2.2.2.2.2.1
                have h9 := HMg.out.2
                rw [List.length_append]
                show M.length + 1 + _ ≤ _
                omega
            case measure => simp [lenS]; omega
          · have hc2 : ¬ cap - 1 = 0 := by omega
            go_wp2_with fail
            obtain ⟨W6, hW6⟩ : ∃ W6, w5.setCell ⟨B, m, none⟩ (.slice (some ⟨b, off + 10, none⟩) tl (cap - 1)) = W6 := ⟨_, rfl⟩
            rw [hW6]
            have k6 : Kept [B] w5 W6 := by rw [← hW6]; exact (Kept.refl _ _).setCell (Or.inl (by simp)) _
            have HN6 : Hid ((L.set m t).length = j ∧ RA w (V.set m (.slice (some ⟨b, off + 10, none⟩) tl (cap - 1))) (L.set m t) ∧ W6.heap[B]? = some (.cells (V.set m (.slice (some ⟨b, off + 10, none⟩) tl (cap - 1))).toArray 44 (0, 0)) ∧ Rr W6 (B + 1) (.slice (some ⟨gn, 0, none⟩) (M.length + 1) cn) (M ++ [⟨a, k, kind, core, fd, ofs, num, p1, p2, dat⟩]) ∧ Kept [] w W6) := by
              refine ⟨by simpa using HX.out.1, HRN.out _ (fun _ => rfl), ?_, ?_, ?_⟩
              · rw [← hW6, block_set HB5.out]; simp
              · exact HR5.out.1.kept k6 (fun x hx e => by
                  have hx' : x = B := by simpa using hx
                  simp [Value.ownBlock] at e
                  exact HR5.out.2 (e.trans hx'))
              · exact HKw5.out.trans k6 (fun x hx => Or.inr (by have hx' : x = B := by simpa using hx
                                                                have := HU2.out
                                                                omega))
            have P := p_least (HN6.out.2.1.kept HN6.out.2.2.2.2) HN6.out.2.2.1 (by rw [HN6.out.1]; omega) j HN6.out.1.symm
            clear hW6 k6 c5 f5
            refine P.mono ?_
            rintro e w7 ⟨rfl, k7⟩
            have HK7 : Hid (Kept [] W6 w7) := k7
            clear P k7
            go_wp2_with fail
            go_roundw
            case rel =>
              refine ⟨L.set m t, _, M ++ [⟨a, k, kind, core, fd, ofs, num, p1, p2, dat⟩], some ⟨gn, 0, none⟩, cn, by simp, rfl, HN6.out.1, HN6.out.2.1, (HK7.out.block _ (lt_of_heap HN6.out.2.2.1) (by simp)).trans HN6.out.2.2.1, ?_, ?_, ?_, HN6.out.2.2.2.2.trans HK7.out (by simp)⟩
              · have := HN6.out.2.2.2.1.kept HK7.out (by simp)
                rw [List.length_append]
                exact this
              · have := HX.out.2.2.2.2.1
                rw [HMg.out.1] at this
                rw [List.append_assoc]
                exact this
              · have := HX.out.2.2.2.2.2.1
                have h9 := HMg.out.2
                rw [List.length_append]
                show M.length + 1 + _ ≤ _
                omega
            case measure => simp [lenS]; omega

end Go.Proofs.Ytlecpeofjabndaa
