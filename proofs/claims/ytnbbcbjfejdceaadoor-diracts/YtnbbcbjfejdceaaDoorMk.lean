/-
  A directory of package dir made; entries listed, held against others, spoilt; traces asked for and cleared.
-/
import Derived.Test.YtnbbcbjfejdceaaDoorDl
import Derived.Test.YtnbbcbjfejdceaaDoorAw
import Derived.Test.YtnbbcbjfejdceaaDoorMeet
import Derived.Test.YtnbbcbjfejdceaaDoorTrace
import Derived.BigQuiet
namespace Go.Proofs.YtnbbcbjfejdceaaDoor
open Go.RowKit
set_option linter.unusedVariables false

theorem ret_bool {x y : Bool} (h : x = y) : Ending.returned (.bool x) = .returned (.bool y) := by rw [h]

/-- Whatever the traces are. -/
def AnyT : Trc → Prop := fun _ => True

theorem anyR (c f n : Nat) : Rd AnyT c f n := fun _ _ _ _ _ => trivial
theorem anyW (c f n : Nat) : Wr AnyT c f n := fun _ _ _ _ _ => trivial

theorem fresh_traces (n c d : Nat) : (fresh n c).traces.getD d [] = [] := by
  simp only [fresh, List.getD, List.getElem?_replicate]
  split <;> rfl

theorem fresh_few (n c : Nat) (N : Nat) : ∀ d, ((fresh n c).traces.getD d []).length ≤ N := fun d => by rw [fresh_traces]; exact Nat.zero_le _

theorem fresh_len (n c : Nat) : (fresh n c).words.length = n ∧ (fresh n c).traces.length = c := by simp [fresh]

theorem many_le (E : List En) (b : Int) (but : ByteArray) : many E b but ≤ E.length := by unfold many; exact List.length_filter_le _ _

section
variable {I : Trc → Prop} {S : List (Nat × Obj)} {w0 w : World} {b g f k L N : Nat} {E : List En}

theorem Dd.mem (h : Dd I S w0 w b g f k L N E) : (g, box b f) ∈ S := by
  obtain ⟨T, h1, h2, h3⟩ := h
  exact h3.mem

theorem Dd.tabs (h : Dd I S w0 w b g f k L N E) : Tab w := by
  obtain ⟨T, h1, h2, h3⟩ := h
  exact h3.tabs

theorem Dd.at_ (h : Dd I S w0 w b g f k L N E) {x : Nat × Obj} (hx : x ∈ S) : w.heap[x.1]? = some x.2 := by
  obtain ⟨T, h1, h2, h3⟩ := h
  exact h3.at_ hx

theorem Dd.turn {w' : World} (h : Dd I S w0 w b g f k L N E) (F : List Nat) (hF : ∀ x ∈ F, ∃ o, (x, o) ∈ S) (hk : Kept F w w') (S' : List (Nat × Obj)) (hg : (g, box b f) ∈ S') (hS : ∀ x ∈ S', (w.heap.size ≤ x.1 ∨ ∃ o, (x.1, o) ∈ S) ∧ w'.heap[x.1]? = some x.2) : Dd I S' w0 w' b g f k L N E := by
  obtain ⟨T, h1, h2, h3⟩ := h
  exact ⟨T, h1, h2, h3.turn F hF hk S' hg hS⟩

theorem Dd.fewer {S' : List (Nat × Obj)} (h : Dd I S w0 w b g f k L N E) (hS : ∀ x ∈ S', x ∈ S) (hg : (g, box b f) ∈ S') : Dd I S' w0 w b g f k L N E := by
  obtain ⟨T, h1, h2, h3⟩ := h
  exact ⟨T, h1, h2, h3.fewer hS hg⟩

theorem Dd.push (h : Dd I S w0 w b g f k L N E) (o : Obj) : Dd I ((w.heap.size, o) :: S) w0 (w.alloc o) b g f k L N E := by
  obtain ⟨T, h1, h2, h3⟩ := h
  exact ⟨T, h1, h2, h3.push o⟩

/-- A row of its own behind it, let go or spoilt. -/
theorem Dd.let {D : List (Nat × Obj)} {u : Value} {F : List En} {w' : World} (h : Dd I (D ++ S) w0 w b g f k L N E) (hu : Oe u F D) (hS : (g, box b f) ∈ S) (hd : ∀ x ∈ D, ∀ y ∈ S, y.1 ≠ x.1) (hK : Kept u.ownBlock.toList w w') : Dd I S w0 w' b g f k L N E := by
  refine h.turn u.ownBlock.toList (fun x hx => ?_) hK S hS fun x hx => ⟨Or.inr ⟨x.2, by simp [hx]⟩, ?_⟩
  · obtain ⟨o, ho⟩ := hu.block x (by simpa using hx)
    exact ⟨o, by simp [ho]⟩
  · rw [hK.block x.1 (lt_of_heap (h.at_ (x := x) (by simp [hx]))) (fun hm => ?_)]
    · exact h.at_ (by simp [hx])
    · obtain ⟨o, ho⟩ := hu.block x.1 (by simpa using hm)
      exact hd _ ho x hx rfl

theorem e_list (h : Dd I S w0 w b g f k L N E) (c : Nat) (hc : c < k) (hI : ∀ n, n < 8 → Rd I c f n) (hN : N < 800000) :
    Calls Tryd.prog 15 #[.pointer (some ⟨g, 0, none⟩), .int .i64 (c : Int)] w fun e w' => ∃ u D, e = .returned u ∧ Oe u E D ∧ Dd I (D ++ S) w0 w' b g f k L (N + 96) E ∧ ∀ x ∈ D, ∀ y ∈ S, y.1 ≠ x.1 := by
  obtain ⟨T, h1, h2, h3⟩ := h
  refine (d_list h3 h1 c hc hI hN).mono ?_
  rintro e w' ⟨u, D, E', rfl, h4, h5, h6, h7, h8⟩
  have e : E' = E := rise_ext h5 h2.1 fun x => by rw [h6 x, h2.2 x]
  subst e
  exact ⟨u, D, rfl, h4, ⟨T, h1, h2, h7⟩, h8⟩

theorem e_list_bad (h : Dd I S w0 w b g f k L N E) (c : Int) (hc : c < 0 ∨ (k : Int) ≤ c) :
    Calls Tryd.prog 15 #[.pointer (some ⟨g, 0, none⟩), .int .i64 c] w fun e w' => e = .returned (.slice none 0 0) ∧ w' = w := by
  obtain ⟨T, h1, h2, h3⟩ := h
  go_enter Tryd.func15, Tryd.ntmps15
  go_wp2_with fail
  refine (d_wrong_core h3 c hc none 0 0).mono ?_
  rintro e w1 ⟨rfl, rfl⟩
  go_wp2_with fail
  go_ret
  exact ⟨rfl, rfl⟩

/-! ### Traces -/

/-- A core's trace forgotten. -/
def tclr (t : Trc) (c : Nat) : Trc := fun d => if d = c then [] else t d

theorem e_clear (h : Dd I S w0 w b g f k L N E) {I' : Trc → Prop} (c : Nat) (hc : c < k) (hI : ∀ t, I t → I' (tclr t c)) :
    Calls Tryd.prog 20 #[.pointer (some ⟨b, 0, none⟩), .int .i64 (c : Int)] w fun e w' => e = .returned (.int .i64 0) ∧ Dd I' S w0 w' b g f k L N E := by
  obtain ⟨T, g1, g2, a1, a2, a3, a4, a5, hS, A, hH, h1, h2, h3, h4, h5⟩ := h
  refine (h_clear hH (c : Int) (by omega) (by omega)).mono ?_
  rintro e w' ⟨rfl, h6⟩
  simp only [Int.toNat_natCast] at h6
  refine ⟨rfl, T, g1, g2, a1, a2, a3, a4, a5, hS, _, h6, h1, by rw [clear_cores]; exact h2, fun d => ?_, ?_, h5⟩
  · rw [clear_trace _ _ _ (by omega)]
    by_cases e : d = c
    · rw [if_pos e]; exact Nat.zero_le _
    · rw [if_neg e]; exact h3 d
  · have e : (fun d => (A.clear c).traces.getD d []) = tclr (fun d => A.traces.getD d []) c := by
      funext d
      rw [clear_trace _ _ _ (by omega)]
      rfl
    rw [e]
    exact hI _ h4

/-- The traces as they are. -/
theorem Dd.now (h : Dd I S w0 w b g f k L N E) : ∃ t, I t ∧ (∀ c, (t c).length ≤ N) ∧ Dd (fun t' => t' = t) S w0 w b g f k L N E := by
  obtain ⟨T, g1, g2, a1, a2, a3, a4, a5, hS, A, hH, h1, h2, h3, h4, h5⟩ := h
  exact ⟨_, h4, h3, T, g1, g2, a1, a2, a3, a4, a5, hS, A, hH, h1, h2, h3, rfl, h5⟩

theorem e_trace {t : Trc} (h : Dd (fun t' => t' = t) S w0 w b g f k L N E) (c : Nat) (hc : c < k) (hN : N < 200000) :
    Calls Tryd.prog 23 #[.pointer (some ⟨b, 0, none⟩), .int .i64 (c : Int)] w fun e w' => ∃ u, e = .returned u ∧ Row w' u (t c) ∧ Kept [] w w' := by
  obtain ⟨T, g1, g2, a1, a2, a3, a4, a5, hS, A, hH, h1, h2, h3, h4, h5⟩ := h
  refine (h_trace hH (c : Int) (by omega) (by omega) (by have := h3 c; simp only [Int.toNat_natCast]; omega)).mono ?_
  rintro e w' ⟨u, he, hr, -, hk⟩
  refine ⟨u, he, ?_, hk⟩
  rw [← h4]
  exact hr

end

theorem Row.still2 {w w' : World} {v : Value} {t : List (Int × Bool)} (h : Row w v t) (hk : Kept [] w w') : Row w' v t :=
  h.same fun k hx => hk.block k (h.block k hx) (by simp)

set_option maxRecDepth 100000 in
set_option maxHeartbeats 1000000 in
theorem words_some {w : World} {g c : Nat} {t : List (Int × Bool)} (hn : t.length ≤ 200000) (h1 : ∀ j u, (acc t)[j]? = some u → w.cell? ⟨g, j, none⟩ = some u) (hf : ∀ x ∈ t, x.2 = false) :
    Calls Tryd.prog 24 #[.slice (some ⟨g, 0, none⟩) t.length c, .bool true] w fun e w' => e = .returned (.slice none 0 0) ∧ Kept [] w w' := by
  have HH : Hid (_ ∧ _) := ⟨h1, hf⟩
  clear h1 hf
  go_enter Tryd.func24, Tryd.ntmps24
  go_wp2_with fail
  go_loopw [6, 5] (fun i o wr => ∃ n : Nat, n ≤ t.length ∧ i = .int .i64 (n : Int) ∧ o = .slice none 0 0 ∧ Hid (Kept [] w wr)) (fun i _ _ => (t.length - intOf i).toNat)
  case atStart => exact ⟨0, by omega, rfl, rfl, Kept.refl _ _⟩
  case round =>
    obtain ⟨n, hnn, rfl, rfl, HK⟩ := hrel
    by_cases hlt : n < t.length
    · have i0 : (0 : Int) ≤ (n : Int) := by omega
      have i1 : (n : Int) < (t.length : Int) := by omega
      obtain ⟨a0, a1⟩ := acc_get t n t[n] (List.getElem?_eq_getElem hlt)
      have hb := HH.out.2 t[n] (List.getElem_mem hlt)
      rw [hb] at a1
      have y0 := HK.out.cell (HH.out.1 _ _ a1) (by simp)
      clear a0 a1 hb
      go_wp2_with fail
      go_roundw
      case rel => exact ⟨n + 1, by omega, by go_num, rfl, HK.out⟩
      case measure => simp [intOf]; omega
    · have i1 : ¬ (n : Int) < (t.length : Int) := by omega
      go_wp2_with fail
      go_ret
      exact ⟨rfl, HK.out⟩

theorem words_nil (w : World) : Calls Tryd.prog 24 #[.slice none 0 0, .bool true] w fun e w' => e = .returned (.slice none 0 0) ∧ Kept [] w w' := by
  go_enter Tryd.func24, Tryd.ntmps24
  go_wp2_with fail
  go_loopw [6, 5] (fun i o wr => i = .int .i64 0 ∧ o = .slice none 0 0 ∧ wr = w) (fun _ _ _ => 0)
  case atStart => exact ⟨rfl, rfl, rfl⟩
  case round =>
    obtain ⟨rfl, rfl, rfl⟩ := hrel
    go_wp2_with fail
    go_ret
    exact ⟨rfl, Kept.refl _ _⟩

/-- Words that are written, of a trace in which none is. -/
theorem words_none {w : World} {u : Value} {t : List (Int × Bool)} (hu : Row w u t) (hn : t.length ≤ 200000) (hf : ∀ x ∈ t, x.2 = false) :
    Calls Tryd.prog 24 #[u, .bool true] w fun e w' => e = .returned (.slice none 0 0) ∧ Kept [] w w' := by
  by_cases ht : t = []
  · rw [hu.2 ht]; exact words_nil w
  · obtain ⟨g1, c1, rfl, _, _, h1⟩ := hu.form ht
    exact words_some hn h1 hf

/-! ### Two rows of entries -/

theorem neq_en (a b : ByteArray) (x y : Int) (w : World) : (binOp .neq 61 (.agg #[.string a, .int .i64 x]) (.agg #[.string b, .int .i64 y])).run Tryd.prog w = .ok (.bool (!(a.toList == b.toList && x == y))) w := by
  have u3 := Tryd.underlying3
  have a3 := Tryd.isAgg3
  have z3 := Tryd.sizeOf3
  have u9 := Tryd.underlying9
  have a9 := Tryd.isAgg9
  have z9 := Tryd.sizeOf9
  have hS : Tryd.prog.underlying 61 = some (.struct (Tryd.prog.fieldsOf 61)) := by kernel_rfl
  have hp : Tryd.prog.stoodInHeld 61 = false := by kernel_rfl
  rw [run_neq_struct, show (10000 : Nat) = 9999 + 1 from rfl, run_equalIn_agg w 9999 61 _ _ hS hp]
  simp only [Program.fieldsOf, Tryd.underlying61]
  go_simp
  by_cases h1 : a.toList = b.toList <;> by_cases h2 : x = y <;> simp [h1, h2]

theorem en_ne {x y : En} : (x.1.toList == y.1.toList && x.2 == y.2) = true ↔ x = y := by
  rw [Bool.and_eq_true, beq_iff_eq, beq_iff_eq]
  exact ⟨fun h => Prod.ext (toList_inj h.1) h.2, fun h => by rw [h]; exact ⟨rfl, rfl⟩⟩

set_option maxHeartbeats 2000000 in
/-- Are two rows the same? -/
theorem same_entries {w : World} {H H' : Nat} {u v : Value} {E F : List En} (hu : Er 61 w H u E) (hv : Er 61 w H' v F) (hx : E.length ≤ 1000000) (r : Bool) (hr : r = true ↔ E = F) :
    Calls Tryd.prog 17 #[u, v] w fun e w' => e = .returned (.bool r) ∧ Kept [] w w' := by
  obtain ⟨a, ca, rfl, ha⟩ := hu.slice
  obtain ⟨a', ca', rfl, ha'⟩ := hv.slice
  have HR : Hid (_) := hr
  clear hr
  by_cases hl : E.length = F.length
  · have t1 : (((E.length : Nat) : Int) != ((F.length : Nat) : Int)) = false := by simp; omega
    have HL : Hid (_) := hl
    rw [← hl] at t1 ⊢
    clear hl hu hv
    go_enter Tryd.func17, Tryd.ntmps17
    go_wp2_with fail
    go_loopw [5] (fun i wr => ∃ j : Nat, i = .int .i64 (j : Int) ∧ j ≤ E.length ∧ Hid (Kept [] w wr ∧ ∀ i, i < j → E[i]? = F[i]?)) (fun i _ => (E.length - intOf i).toNat)
    case atStart => exact ⟨0, rfl, by omega, Kept.refl [] w, fun i hi => by omega⟩
    case round =>
      obtain ⟨j, rfl, hj, HJ⟩ := hrel
      by_cases hlt : j < E.length
      · have i0 : (j : Int) < (E.length : Int) := by omega
        have i1 : (0 : Int) ≤ (j : Int) := by omega
        have hlf : j < F.length := by rw [← HL.out]; exact hlt
        obtain ⟨g, rfl, hc, hd⟩ := ha j hlt
        obtain ⟨g', rfl, hc', hd'⟩ := ha' j hlf
        have q := HJ.out.1.cell hc (by simp)
        have p := HJ.out.1.cell hd (by simp)
        have q' := HJ.out.1.cell hc' (by simp)
        have p' := HJ.out.1.cell hd' (by simp)
        clear hc hc' hd hd'
        have hA : Hid (_ ∧ _) := ⟨ha, ha'⟩
        clear ha ha'
        have HE : Hid (E[j]? = some E[j] ∧ F[j]? = some F[j]) := ⟨List.getElem?_eq_getElem hlt, List.getElem?_eq_getElem hlf⟩
        have hne := fun w => neq_en (E[j]).1 (F[j]).1 (E[j]).2 (F[j]).2 w
        rcases hb : ((E[j]).1.toList == (F[j]).1.toList && (E[j]).2 == (F[j]).2) with _ | _
        · rw [hb] at hne
          have hn : ¬ E[j] = F[j] := fun e => by rw [← en_ne, hb] at e; cases e
          have H3 : Hid (false = r ∧ Kept [] w wr) := ⟨by
            rcases hr2 : r with _ | _
            · rfl
            · have := HR.out.1 hr2
              have h1 : E[j]? = F[j]? := by rw [this]
              rw [HE.out.1, HE.out.2] at h1
              exact absurd (Option.some.inj h1) hn, HJ.out.1⟩
          clear HJ hn hb
          generalize E[j] = x at *
          generalize F[j] = y at *
          go_wp2_with fail
          go_quiet (fail)
          go_wp2
          go_ret
          exact ⟨ret_bool H3.out.1, H3.out.2.drewN _⟩
        · rw [hb] at hne
          have hn : E[j] = F[j] := en_ne.1 hb
          have H3 : Hid (Kept [] w wr ∧ ∀ i, i < j + 1 → E[i]? = F[i]?) := ⟨HJ.out.1, fun i hi => by
            rcases Nat.lt_succ_iff_lt_or_eq.1 hi with h3 | h3
            · exact HJ.out.2 i h3
            · rw [h3, HE.out.1, HE.out.2, hn]⟩
          clear HJ hn hb HE
          generalize E[j] = x at *
          generalize F[j] = y at *
          go_wp2_with fail
          go_quiet (fail)
          go_wp2
          go_roundw
          case rel => exact ⟨j + 1, by go_num, by omega, H3.out.1.drewN _, H3.out.2⟩
          case measure => simp [intOf]; omega
      · have e : j = E.length := by omega
        have H3 : Hid (true = r ∧ Kept [] w wr) := ⟨(HR.out.2 (List.ext_getElem? fun i => by
          by_cases hi : i < j
          · exact HJ.out.2 i hi
          · rw [List.getElem?_eq_none (by omega), List.getElem?_eq_none (by have := HL.out; omega)])).symm, HJ.out.1⟩
        clear HJ
        subst e
        go_wp2_with fail
        go_ret
        exact ⟨ret_bool H3.out.1, H3.out.2⟩
  · have t1 : (((E.length : Nat) : Int) != ((F.length : Nat) : Int)) = true := by simp; omega
    have H3 : Hid (false = r) := by
      show false = r
      rcases hr2 : r with _ | _
      · rfl
      · exact absurd (by rw [HR.out.1 hr2]) hl
    clear hl hu hv ha ha'
    go_enter Tryd.func17, Tryd.ntmps17
    go_wp2_with fail
    go_ret
    exact ⟨ret_bool H3.out, Kept.refl [] w⟩

set_option maxHeartbeats 2000000 in
/-- A row spoilt. -/
theorem spoil_entries {w : World} {H : Nat} {u : Value} {E : List En} (hu : Er 61 w H u E) (hx : E.length ≤ 1000000) :
    Calls Tryd.prog 18 #[u] w fun e w' => e = .returned (.tuple #[]) ∧ Kept u.ownBlock.toList w w' := by
  obtain ⟨a, ca, hs, ha⟩ := hu.slice
  subst hs
  rcases hu.form with ⟨h1, h2⟩ | ⟨g, cap, cur, h1, h2, h3, h4, h5, h6, h7⟩
  · subst h2
    rw [h1]
    go_enter Tryd.func18, Tryd.ntmps18
    go_wp2_with fail
    go_loopw [2] (fun i wr => i = .int .i64 0 ∧ wr = w) (fun _ _ => 0)
    case atStart => exact ⟨rfl, rfl⟩
    case round =>
      obtain ⟨rfl, rfl⟩ := hrel
      go_wp2_with fail
      go_end0
      exact ⟨rfl, Kept.refl _ _⟩
  · rw [h1]
    have hob : (Value.slice (some ⟨g, 0, none⟩) E.length cap).ownBlock.toList = [g] := rfl
    rw [hob]
    have HB : Hid (w.heap[g]? = some (.cells cur 61 (0, 0)) ∧ cur.size = cap * 2) := ⟨h3, h6⟩
    have HX : Hid (∀ i, 0 ≤ i → i < E.length → ∃ x, cur[i * 2 + 1]? = some (.int .i64 x)) := fun i _ hi => by
      have h8 := (flat_get E i _ (List.getElem?_eq_getElem hi)).2
      rw [← h7, List.getElem?_take_of_lt (by omega)] at h8
      exact ⟨_, by simpa using h8⟩
    clear hu ha h3 h6 h7 h1 hob
    go_enter Tryd.func18, Tryd.ntmps18
    go_wp2_with fail
    go_loopw [2] (fun i wr => ∃ j : Nat, i = .int .i64 (j : Int) ∧ j ≤ E.length ∧ Hid (Kept [g] w wr ∧ ∃ cs, wr.heap[g]? = some (.cells cs 61 (0, 0)) ∧ cs.size = cap * 2 ∧ ∀ i, j ≤ i → i < E.length → ∃ x, cs[i * 2 + 1]? = some (.int .i64 x))) (fun i _ => (E.length - intOf i).toNat)
    case atStart => exact ⟨0, rfl, by omega, Kept.refl _ _, cur, HB.out.1, HB.out.2, HX.out⟩
    case round =>
      obtain ⟨j, rfl, hj, HJ⟩ := hrel
      by_cases hlt : j < E.length
      · have i0 : (j : Int) < (E.length : Int) := by omega
        have i1 : (0 : Int) ≤ (j : Int) := by omega
        obtain ⟨hk, cs, hc, hsz, hx2⟩ := HJ.out
        obtain ⟨x, hxx⟩ := hx2 j (Nat.le_refl _) hlt
        have c0 : wr.cell? ⟨g, j * 2 + 1, none⟩ = some (.int .i64 x) := (cell_of_row _ _ _ _ _ _ hc).trans hxx
        have f0 : wr.frozen? ⟨g, j * 2 + 1, none⟩ = false := frozen_of_row _ _ _ _ _ hc
        have H2 : Hid (∀ y : Int, Kept [g] w (wr.setCell ⟨g, j * 2 + 1, none⟩ (.int .i64 y)) ∧ ∃ cs, (wr.setCell ⟨g, j * 2 + 1, none⟩ (.int .i64 y)).heap[g]? = some (.cells cs 61 (0, 0)) ∧ cs.size = cap * 2 ∧ ∀ i, j + 1 ≤ i → i < E.length → ∃ x, cs[i * 2 + 1]? = some (.int .i64 x)) := fun y => ⟨hk.setCell (Or.inl (by simp)) _, _, heap_setCell_same _ _ _ _ _ _ hc, by simpa using hsz, fun i hi hie => by
          obtain ⟨z, hz⟩ := hx2 i (by omega) hie
          exact ⟨z, by rw [Array.getElem?_setIfInBounds, if_neg (by omega)]; exact hz⟩⟩
        clear HJ hk hc hsz hx2 hxx
        go_wp2_with fail
        go_roundw
        case rel => exact ⟨j + 1, by go_num, by omega, H2.out _⟩
        case measure => simp [intOf]; omega
      · have i0 : ¬ (j : Int) < (E.length : Int) := by omega
        have H2 : Hid (_) := HJ.out.1
        clear HJ
        go_wp2_with fail
        go_end0
        exact ⟨rfl, H2.out⟩

/-! ### Made, and awake -/

theorem made_any (w : World) (hT : Tab w) : Calls Tryd.prog 9 #[] w fun e w' => ∃ b g, e = .returned (.tuple #[.pointer (some ⟨b, 0, none⟩), .pointer (some ⟨g, 0, none⟩), .bool true]) ∧ Dd AnyT [(g, box b 0)] w w' b g 0 4 1024 96 [] := by
  have HT : Hid (_) := hT
  clear hT
  go_enter Tryd.func9, Tryd.ntmps9
  go_wp2_with fail
  refine (h_new w 1024 4 (by omega) (by omega) (by omega) (by omega)).mono ?_
  rintro e w1 ⟨b, rfl, hm⟩
  have H1 : Hid (_) := hm
  clear hm
  go_wp2_with fail
  refine (d_new (I := AnyT) (N := 0) H1.out HT.out 0 1024 _ _ rfl rfl 4 1024 (fresh_len 1024 4).2 (fresh_len 1024 4).1 (by omega) (by omega) (fresh_few 1024 4 0) (by omega) (fun n _ => anyW 0 0 n) trivial).mono ?_
  rintro e w2 ⟨g, rfl, h2⟩
  have H2 : Hid (Dd AnyT [(g, box b 0)] w w2 b g 0 4 1024 96 []) := ⟨_, Good.empty, Rel.empty, h2⟩
  clear h2 H1
  go_wp2_with (first
    | (go_at_call 11; refine (num _ _).mono ?_; rintro e w' ⟨rfl, rfl⟩))
  go_ret3
  exact ⟨b, g, rfl, H2.out⟩

end Go.Proofs.YtnbbcbjfejdceaaDoor
