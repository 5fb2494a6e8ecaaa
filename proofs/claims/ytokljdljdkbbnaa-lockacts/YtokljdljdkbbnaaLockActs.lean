/-
  Proved: for every acts, the law LockActs returns true. No condition.
-/
import Derived.Test.YtokljdljdkbbnaaRows
import Derived.Test.YtokljdljdkbbnaaAny
import Derived.WalkKit
import Derived.Deep.CutRange
import Derived.Deep.CutBlock
import Derived.ProofKit
import Derived.OpenShut
import Derived.ShutString
import Derived.ChangeOld
import Derived.Below
import Derived.Deep.Slices
namespace Go.Proofs.Ytokljdljdkbbnaa.lockActs
open Go.ChangeShapes Go.WideShapes Go.ChangeAt Go.RowKit
open Go.ChangeMaps (open_string shut_string)
set_option linter.unusedVariables false

theorem own : ownKnob Try.prog.godebug = none := by kernel_rfl
theorem laidOut : laidOutB Try.prog = true := by kernel_rfl

/-- An act as it lies. -/
def ActAt (w : World) (B off i : Nat) (k c t v : Int) : Prop := w.cell? ⟨B, off + i * 4, none⟩ = some (.int .i64 k) ∧ w.cell? ⟨B, off + i * 4 + 1, none⟩ = some (.int .i64 c) ∧ w.cell? ⟨B, off + i * 4 + 2, none⟩ = some (.int .i64 t) ∧ w.cell? ⟨B, off + i * 4 + 3, none⟩ = some (.int .i64 v)

theorem ActAt.kept {w w' : World} {B off i : Nat} {k c t v : Int} (h : ActAt w B off i k c t v) (hk : Kept [] w w') : ActAt w' B off i k c t v :=
  ⟨hk.cell h.1 (by simp), hk.cell h.2.1 (by simp), hk.cell h.2.2.1 (by simp), hk.cell h.2.2.2 (by simp)⟩

/-- The acts as they lie. -/
def IsActs (w : World) (a : Option Addr) (len : Nat) : Prop :=
  len = 0 ∨ ∃ B off, ∃ K C T V : Nat → Int, a = some ⟨B, off, none⟩ ∧ len ≤ 9223372036854775807 ∧ ∀ i, i < len → ActAt w B off i (K i) (C i) (T i) (V i)

theorem acts_at {H : Type} {enc : TypeId × Value → H} {w : World} {base : Nat} {spare : Nat → Bool} {held : Bool} {fuel : Nat} {a : Option Addr} {len cap : Nat} {x : DataW H × List MemPlace}
    (h : DataW.trod enc Try.prog w base spare held fuel 22 [.slice a len cap] = some x) : IsActs w a len := by
  rcases Deep.open_slice Try.underlying22 h with ⟨hcs, _⟩ | ⟨a', len', cap', m, n, D, Pl, hcs, hb, hl, hm, hmm, _, hx⟩
  · simp at hcs
    exact Or.inl hcs.2.1
  · simp at hcs
    obtain ⟨rfl, rfl, rfl⟩ := hcs
    by_cases h0 : len = 0
    · exact Or.inl h0
    have hlm : len ≤ m := by rw [hmm]; split <;> omega
    have ce : Try.prog.cellsOf 30 = 4 := by kernel_rfl
    rw [ce] at hx
    have each : ∀ i, i < len → ∃ q : Int × Int × Int × Int, w.cell? (a'.add (i * 4)) = some (.int .i64 q.1) ∧ w.cell? (a'.add (i * 4 + 1)) = some (.int .i64 q.2.1) ∧ w.cell? (a'.add (i * 4 + 2)) = some (.int .i64 q.2.2.1) ∧ w.cell? (a'.add (i * 4 + 3)) = some (.int .i64 q.2.2.2) := by
      intro i hi
      obtain ⟨cs', h1, h2⟩ := hx i (by omega)
      obtain ⟨_, hlen, hcell⟩ := World.cells?_some h1
      obtain ⟨xs, k, hk, hxy, _, hxl, hf⟩ := DataW.trod_struct Try.underlying30 h2
      match xs, hxl, cs', hlen with
      | [y0, y1, y2, y3], _, [v0, v1, v2, v3], _ =>
        have g0 := hf 0 _ rfl
        have g1 := hf 1 _ rfl
        have g2 := hf 2 _ rfl
        have g3 := hf 3 _ rfl
        simp [show Try.prog.cellsOf 3 = 1 from by kernel_rfl] at g0 g1 g2 g3
        have e0 := hcell 0 (by omega)
        have e1 := hcell 1 (by omega)
        have e2 := hcell 2 (by omega)
        have e3 := hcell 3 (by omega)
        rw [Deep.add_add] at e0 e1 e2 e3
        obtain ⟨z0, q0, -, -⟩ := DataW.trod_int Try.underlying3 g0
        obtain ⟨z1, q1, -, -⟩ := DataW.trod_int Try.underlying3 g1
        obtain ⟨z2, q2, -, -⟩ := DataW.trod_int Try.underlying3 g2
        obtain ⟨z3, q3, -, -⟩ := DataW.trod_int Try.underlying3 g3
        simp at q0 q1 q2 q3 e0 e1 e2 e3
        subst q0 q1 q2 q3
        exact ⟨(z0, z1, z2, z3), e0, e1, e2, e3⟩
    obtain ⟨q, hq⟩ := Deep.choose_lt (α := Int × Int × Int × Int) each
    obtain ⟨B, off, spot⟩ := a'
    have hspot : spot = none := by simpa [Addr.add] using World.cell?_spot (hq 0 (by omega)).1
    subst hspot
    refine Or.inr ⟨B, off, fun i => (q i).1, fun i => (q i).2.1, fun i => (q i).2.2.1, fun i => (q i).2.2.2, rfl, by unfold maxLen at hm; omega, fun i hi => ?_⟩
    have := hq i hi
    simp only [add_plain] at this
    exact ⟨this.1, this.2.1, this.2.2.1, this.2.2.2⟩

theorem turned {x g : Nat} {o1 o2 o3 : Obj} {w0 w w' : World} {b : Nat} {A : Ar} (h : Hs [(x, o1), (g, o2)] w0 w b A) (hk : Kept [g] w w') (hg : w'.heap[g]? = some o3) (hx : x ≠ g) : Hs [(x, o1), (g, o3)] w0 w' b A := by
  obtain ⟨hK, p, hb, hf, hm, hs⟩ := h
  have s1 := hs (x, o1) (by simp)
  have s2 := hs (g, o2) (by simp)
  refine ⟨hK.trans hk (by intro y hy; simp only [List.mem_singleton] at hy; subst hy; exact Or.inr s2.1), p, hb, hf, hm.kept hk (fun k hk2 he => by simp only [List.mem_singleton] at he; subst he; exact s2.2.1 hk2), fun y hy => ?_⟩
  simp only [List.mem_cons, List.not_mem_nil, or_false] at hy
  rcases hy with rfl | rfl
  · exact ⟨s1.1, s1.2.1, by rw [hk.block _ (lt_of_heap s1.2.2) (by simpa using hx)]; exact s1.2.2⟩
  · exact ⟨s2.1, s2.2.1, hg⟩

theorem boxed {S : List (Nat × Obj)} {bx : Nat} {x y z u : Value} {t : TypeId} {w0 w : World} {b : Nat} {A : Ar} (h : Hs ((bx, .cells #[x, y, z, u] t (0, 0)) :: S) w0 w b A) : w.cell? ⟨bx, 0, none⟩ = some x ∧ w.cell? ⟨bx, 1, none⟩ = some y ∧ w.cell? ⟨bx, 2, none⟩ = some z ∧ w.cell? ⟨bx, 3, none⟩ = some u := by
  obtain ⟨hK, p, hb, hf, hm, hs⟩ := h
  exact box4 (hs _ (List.mem_cons_self ..)).2.2

theorem buildInts (w : World) : (Instr.buildSlice 28 4 #[(0, .int .i64 0), (1, .int .i64 0), (2, .int .i64 0), (3, .int .i64 0)]).run Try.prog w = .ok (.slice (some ⟨w.heap.size, 0, none⟩) 4 4) (w.alloc (.cells (i64s [0, 0, 0, 0]) 3)) := by kernel_rfl

theorem clean_of {A : Ar} (hc : A.traces.length = 3) (h : ∀ d, d < 3 → A.traces.getD d [] = []) : Clean A := fun d => by
  by_cases hd : d < 3
  · exact h d hd
  · rw [List.getD, List.getElem?_eq_none (by omega)]; rfl

/-- Behind the acts: the words, and j looks at them. -/
structure Last (j : Nat) (A : Ar) : Prop where
  len : A.words.length = 4
  few : Few 3 (2 + j) A

set_option maxRecDepth 100000 in
set_option maxHeartbeats 64000000 in
theorem acts_all (a : Option Addr) (len0 cap0 : Nat) (w : World) (ha : IsActs w a len0) :
    Calls Try.prog 3 #[.slice a len0 cap0] w fun e w' => e = .returned (.bool true) ∧ Kept [] w w' := by
  have HA : Hid (IsActs w a len0) := ha
  clear ha
  have hB1 := buildInts
  go_enter Try.func3, Try.ntmps3
  go_wp2_with fail
  refine (h_new w 4 3 (by omega) (by omega) (by omega) (by omega)).mono ?_
  rintro e w1 ⟨b, rfl, hm⟩
  have hm1 : Hs [] w w1 b (fresh 4 3) := hm
  have HI : Hid (∃ A, Hs [(w1.heap.size, .cells (i64s A.words) 3 (0, 0))] w (w1.alloc (.cells (i64s [0, 0, 0, 0]) 3)) b A ∧ Ok 0 A) := ⟨_, hm1.push _, Ok.start⟩
  clear hm hm1
  go_wp2_with (first
    | (go_at_call 8; refine (num _ _).mono ?_; rintro e w' ⟨rfl, rfl⟩))
  generalize w'.heap.size = g at *
  clear hB1
  go_loopw [6] (fun i wr => ∃ n : Nat, n ≤ len0 ∧ n ≤ 200 ∧ i = .int .i64 (n : Int) ∧ Hid (∃ A, Hs [(g, .cells (i64s A.words) 3 (0, 0))] w wr b A ∧ Ok n A)) (fun i _ => (200 - intOf i).toNat)
  case atStart => exact ⟨0, by omega, by omega, rfl, HI⟩
  case round =>
    obtain ⟨n, hn, hn2, rfl, HR⟩ := hrel
    obtain ⟨A, hm, hT⟩ := HR.out
    have HM : Hid (Hs [(g, .cells (i64s A.words) 3 (0, 0))] w wr b A) := hm
    have HT : Hid (Ok n A) := hT
    clear HI HR hm hT
    by_cases hlt : n < len0 ∧ n < 200
    · obtain ⟨hlt, hlt2⟩ := hlt
      have i0 : (0 : Int) ≤ (n : Int) := by omega
      have i1 : (n : Int) < (len0 : Int) := by omega
      have i2 : (n : Int) < 200 := by omega
      rcases HA.out with h0 | ⟨B, off, K, C, T, V, rfl, hl, hc⟩
      · omega
      clear HA
      obtain ⟨x0, x1, x2, x3⟩ := (hc n hlt).kept HM.out.old
      clear hc
      generalize K n = kd at x0
      generalize C n = cc at x1
      generalize T n = tt at x2
      generalize V n = vv at x3
      have HX : Hid (wr.heap.size ≠ g) := by
        show wr.heap.size ≠ g
        have := lt_of_heap (HM.out.2.choose_spec.2.2.2 _ (List.mem_cons_self ..)).2.2
        simp only at this
        omega
      have HI2 : Hid (∃ A2, Hs [(wr.heap.size, .cells #[.int .i64 kd, .int .i64 cc, .int .i64 tt, .int .i64 vv] 30 (0, 0)), (g, .cells (i64s A2.words) 3 (0, 0))] w (wr.alloc (.cells #[.int .i64 kd, .int .i64 cc, .int .i64 tt, .int .i64 vv] 30)) b A2 ∧ Ok n A2 ∧ ∀ d, d < 0 → A2.traces.getD d [] = []) := ⟨A, HM.out.push _, HT.out, by omega⟩
      clear HM HT
      go_wp2_with fail
      clear x0 x1 x2 x3
      generalize wr.heap.size = bx at *
      go_loopw [8] (fun i wr => ∃ m : Nat, m ≤ 3 ∧ i = .int .i64 (m : Int) ∧ Hid (∃ A2, Hs [(bx, .cells #[.int .i64 kd, .int .i64 cc, .int .i64 tt, .int .i64 vv] 30 (0, 0)), (g, .cells (i64s A2.words) 3 (0, 0))] w wr b A2 ∧ Ok n A2 ∧ ∀ d, d < m → A2.traces.getD d [] = [])) (fun i _ => (3 - intOf i).toNat)
      case atStart => exact ⟨0, by omega, rfl, HI2⟩
      case round =>
        obtain ⟨m, hm3, rfl, HR2⟩ := hrel
        obtain ⟨A, hm, hT, hC⟩ := HR2.out
        have HM : Hid (Hs [(bx, .cells #[.int .i64 kd, .int .i64 cc, .int .i64 tt, .int .i64 vv] 30 (0, 0)), (g, .cells (i64s A.words) 3 (0, 0))] w wr b A) := hm
        have HT : Hid (Ok n A) := hT
        have HC : Hid (∀ d, d < m → A.traces.getD d [] = []) := hC
        clear HI2 HR2 hm hT hC
        by_cases hlt3 : m < 3
        · have m1 : (m : Int) < 3 := by omega
          go_wp2_with fail
          refine (h_clear HM.out (m : Int) (by omega) (by rw [HT.out.few.cores]; omega)).mono ?_
          rintro e w4 ⟨rfl, hm4⟩
          have HN : Hid (Hs [(bx, .cells #[.int .i64 kd, .int .i64 cc, .int .i64 tt, .int .i64 vv] 30 (0, 0)), (g, .cells (i64s A.words) 3 (0, 0))] w w4 b (A.clear m)) := hm4
          clear hm4
          go_wp2_with fail
          go_roundw
          case rel => exact ⟨m + 1, by omega, by go_num, ⟨A.clear m, HN.out, HT.out.clear m hlt3, fun d hd => by
            rw [clear_trace _ _ _ (by rw [HT.out.few.cores]; exact hlt3)]
            by_cases e : d = m
            · rw [if_pos e]
            · rw [if_neg e]; exact HC.out d (by omega)⟩⟩
          case measure => simp [intOf]; omega
        · have m1 : ¬ (m : Int) < 3 := by omega
          have HCL : Hid (Clean A) := clean_of HT.out.few.cores (fun d hd => HC.out d (by omega))
          clear HC
          obtain ⟨y0, y1, y2, y3⟩ := boxed HM.out
          go_upto_region 13 with fail
          go_cut [9] from 39 to 199 (fun c wx => ∃ q : Bool, c = .bool q ∧ Hid (q = decide ((cc < 0 ∨ 2 < cc) ∨ (tt < 0 ∨ 3 < tt))) ∧ wx = wr)
          case first =>
            by_cases b1 : cc < 0
            · as_aux_lemma =>
                go_wp2_with fail
                go_meet
                case rel => exact ⟨_, rfl, (decide_eq_true (p := (cc < 0 ∨ 2 < cc) ∨ (tt < 0 ∨ 3 < tt)) (by omega)).symm, rfl⟩
            · by_cases b2 : 2 < cc
              · as_aux_lemma =>
                  go_wp2_with fail
                  go_meet
                  case rel => exact ⟨_, rfl, (decide_eq_true (p := (cc < 0 ∨ 2 < cc) ∨ (tt < 0 ∨ 3 < tt)) (by omega)).symm, rfl⟩
              · by_cases b3 : tt < 0
                · as_aux_lemma =>
                    go_wp2_with fail
                    go_meet
                    case rel => exact ⟨_, rfl, (decide_eq_true (p := (cc < 0 ∨ 2 < cc) ∨ (tt < 0 ∨ 3 < tt)) (by omega)).symm, rfl⟩
                · by_cases b4 : 3 < tt
                  · as_aux_lemma =>
                      go_wp2_with fail
                      go_meet
                      case rel => exact ⟨_, rfl, (decide_eq_true (p := (cc < 0 ∨ 2 < cc) ∨ (tt < 0 ∨ 3 < tt)) (by omega)).symm, rfl⟩
                  · as_aux_lemma =>
                      go_wp2_with fail
                      go_meet
                      case rel => exact ⟨_, rfl, (decide_eq_false (p := (cc < 0 ∨ 2 < cc) ∨ (tt < 0 ∨ 3 < tt)) (by omega)).symm, rfl⟩
          case rest =>
            obtain ⟨q, rfl, HQ, rfl⟩ := hcut
            go_upto_block 4 with fail
            go_cut [10, 11, 12, 13, 14, 15, 16, 17, 18, 19, 20, 21, 22, 23] from 39 to 199 (fun v is f s13 s14 s15 s16 s17 s18 s19 s20 s21 s22 s23 wx => ∃ v2 : Int, ∃ i2 : Bool, ∃ f2 : Int, v = .int .i64 v2 ∧ is = .bool i2 ∧ f = .int .i64 f2 ∧ Hid (∃ A2, Hs [(bx, .cells #[.int .i64 kd, .int .i64 cc, .int .i64 tt, .int .i64 vv] 30 (0, 0)), (g, .cells (i64s A.words) 3 (0, 0))] w wx b A2 ∧ Ans n kd cc tt vv A A2 v2 i2 f2))
            case first =>
              by_cases g0 : kd = 0
              · subst g0
                as_aux_lemma =>
                  go_wp2_with fail
                  refine (any0 HM.out HT.out (by omega) HCL.out cc tt vv).mono ?_
                  rintro e w4 ⟨is, f, A2, rfl, hm4, hA⟩
                  have HN : Hid (Hs [(bx, .cells #[.int .i64 0, .int .i64 cc, .int .i64 tt, .int .i64 vv] 30 (0, 0)), (g, .cells (i64s A.words) 3 (0, 0))] w w4 b A2 ∧ Ans n 0 cc tt vv A A2 0 is f) := ⟨hm4, hA⟩
                  clear hm4 hA HM
                  go_wp2_with (first
                    | (go_at_call 8; refine (num _ _).mono ?_; rintro e w' ⟨rfl, rfl⟩))
                  go_meet
                  case rel => exact ⟨_, _, _, rfl, rfl, rfl, ⟨_, HN.out⟩⟩
              have t0 : (kd == 0) = false := by simp [g0]
              have H0 : Hid (kd ≠ 0) := g0
              clear g0
              by_cases g1 : kd = 1
              · subst g1
                clear t0 H0
                as_aux_lemma =>
                  go_wp2_with fail
                  refine (any1 HM.out HT.out (by omega) HCL.out cc tt vv).mono ?_
                  rintro e w4 ⟨is, f, A2, rfl, hm4, hA⟩
                  have HN : Hid (Hs [(bx, .cells #[.int .i64 1, .int .i64 cc, .int .i64 tt, .int .i64 vv] 30 (0, 0)), (g, .cells (i64s A.words) 3 (0, 0))] w w4 b A2 ∧ Ans n 1 cc tt vv A A2 0 is f) := ⟨hm4, hA⟩
                  clear hm4 hA HM
                  go_wp2_with (first
                    | (go_at_call 8; refine (num _ _).mono ?_; rintro e w' ⟨rfl, rfl⟩))
                  go_meet
                  case rel => exact ⟨_, _, _, rfl, rfl, rfl, ⟨_, HN.out⟩⟩
              have t1 : (kd == 1) = false := by simp [g1]
              have H1 : Hid (kd ≠ 1) := g1
              clear g1
              by_cases g2 : kd = 2
              · subst g2
                clear t0 H0 t1 H1
                as_aux_lemma =>
                  go_wp2_with fail
                  refine (any2 HM.out HT.out (by omega) HCL.out cc tt vv).mono ?_
                  rintro e w4 ⟨f, A2, rfl, hm4, hA⟩
                  have HN : Hid (Hs [(bx, .cells #[.int .i64 2, .int .i64 cc, .int .i64 tt, .int .i64 vv] 30 (0, 0)), (g, .cells (i64s A.words) 3 (0, 0))] w w4 b A2 ∧ Ans n 2 cc tt vv A A2 0 false f) := ⟨hm4, hA⟩
                  clear hm4 hA HM
                  go_wp2_with (first
                    | (go_at_call 8; refine (num _ _).mono ?_; rintro e w' ⟨rfl, rfl⟩))
                  go_meet
                  case rel => exact ⟨_, _, _, rfl, rfl, rfl, ⟨_, HN.out⟩⟩
              have t2 : (kd == 2) = false := by simp [g2]
              have H2 : Hid (kd ≠ 2) := g2
              clear g2
              by_cases g3 : kd = 3
              · subst g3
                clear t0 H0 t1 H1 t2 H2
                as_aux_lemma =>
                  go_wp2_with fail
                  refine (any3 HM.out HT.out (by omega) HCL.out cc tt vv).mono ?_
                  rintro e w4 ⟨f, A2, rfl, hm4, hA⟩
                  have HN : Hid (Hs [(bx, .cells #[.int .i64 3, .int .i64 cc, .int .i64 tt, .int .i64 vv] 30 (0, 0)), (g, .cells (i64s A.words) 3 (0, 0))] w w4 b A2 ∧ Ans n 3 cc tt vv A A2 0 false f) := ⟨hm4, hA⟩
                  clear hm4 hA HM
                  go_wp2_with (first
                    | (go_at_call 8; refine (num _ _).mono ?_; rintro e w' ⟨rfl, rfl⟩))
                  go_meet
                  case rel => exact ⟨_, _, _, rfl, rfl, rfl, ⟨_, HN.out⟩⟩
              have t3 : (kd == 3) = false := by simp [g3]
              have H3 : Hid (kd ≠ 3) := g3
              clear g3
              by_cases g4 : kd = 4
              · subst g4
                clear t0 H0 t1 H1 t2 H2 t3 H3
                as_aux_lemma =>
                  go_wp2_with fail
                  refine (any4 HM.out HT.out (by omega) HCL.out cc tt vv).mono ?_
                  rintro e w4 ⟨v, f, A2, rfl, hm4, hA⟩
                  have HN : Hid (Hs [(bx, .cells #[.int .i64 4, .int .i64 cc, .int .i64 tt, .int .i64 vv] 30 (0, 0)), (g, .cells (i64s A.words) 3 (0, 0))] w w4 b A2 ∧ Ans n 4 cc tt vv A A2 v false f) := ⟨hm4, hA⟩
                  clear hm4 hA HM
                  go_wp2_with (first
                    | (go_at_call 8; refine (num _ _).mono ?_; rintro e w' ⟨rfl, rfl⟩))
                  go_meet
                  case rel => exact ⟨_, _, _, rfl, rfl, rfl, ⟨_, HN.out⟩⟩
              have t4 : (kd == 4) = false := by simp [g4]
              have H4 : Hid (kd ≠ 4) := g4
              clear g4
              by_cases g5 : kd = 5
              · subst g5
                clear t0 H0 t1 H1 t2 H2 t3 H3 t4 H4
                as_aux_lemma =>
                  go_wp2_with fail
                  refine (any5 HM.out HT.out (by omega) HCL.out cc tt vv).mono ?_
                  rintro e w4 ⟨v, is, f, A2, rfl, hm4, hA⟩
                  have HN : Hid (Hs [(bx, .cells #[.int .i64 5, .int .i64 cc, .int .i64 tt, .int .i64 vv] 30 (0, 0)), (g, .cells (i64s A.words) 3 (0, 0))] w w4 b A2 ∧ Ans n 5 cc tt vv A A2 v is f) := ⟨hm4, hA⟩
                  clear hm4 hA HM
                  go_wp2_with (first
                    | (go_at_call 8; refine (num _ _).mono ?_; rintro e w' ⟨rfl, rfl⟩))
                  go_meet
                  case rel => exact ⟨_, _, _, rfl, rfl, rfl, ⟨_, HN.out⟩⟩
              have t5 : (kd == 5) = false := by simp [g5]
              have H5 : Hid (kd ≠ 5) := g5
              clear g5
              by_cases g6 : kd = 6
              · subst g6
                clear t0 H0 t1 H1 t2 H2 t3 H3 t4 H4 t5 H5
                as_aux_lemma =>
                  go_wp2_with fail
                  refine (any6 HM.out HT.out (by omega) HCL.out cc tt vv).mono ?_
                  rintro e w4 ⟨is, f, A2, rfl, hm4, hA⟩
                  have HN : Hid (Hs [(bx, .cells #[.int .i64 6, .int .i64 cc, .int .i64 tt, .int .i64 vv] 30 (0, 0)), (g, .cells (i64s A.words) 3 (0, 0))] w w4 b A2 ∧ Ans n 6 cc tt vv A A2 0 is f) := ⟨hm4, hA⟩
                  clear hm4 hA HM
                  go_wp2_with (first
                    | (go_at_call 8; refine (num _ _).mono ?_; rintro e w' ⟨rfl, rfl⟩))
                  go_meet
                  case rel => exact ⟨_, _, _, rfl, rfl, rfl, ⟨_, HN.out⟩⟩
              have t6 : (kd == 6) = false := by simp [g6]
              have H6 : Hid (kd ≠ 6) := g6
              clear g6
              as_aux_lemma =>
                go_wp2_with fail
                refine (any7 HM.out HT.out (by omega) HCL.out cc tt vv kd H0.out H1.out H2.out H3.out H4.out H5.out H6.out).mono ?_
                rintro e w4 ⟨f, A2, rfl, hm4, hA⟩
                have HN : Hid (Hs [(bx, .cells #[.int .i64 kd, .int .i64 cc, .int .i64 tt, .int .i64 vv] 30 (0, 0)), (g, .cells (i64s A.words) 3 (0, 0))] w w4 b A2 ∧ Ans n kd cc tt vv A A2 0 false f) := ⟨hm4, hA⟩
                clear hm4 hA HM
                go_wp2_with (first
                  | (go_at_call 8; refine (num _ _).mono ?_; rintro e w' ⟨rfl, rfl⟩))
                go_meet
                case rel => exact ⟨_, _, _, rfl, rfl, rfl, ⟨_, HN.out⟩⟩
            case rest =>
              obtain ⟨v2, i2, f2, rfl, rfl, rfl, HA2⟩ := hcut
              obtain ⟨A2, hm2, hA2⟩ := HA2.out
              clear HA2 HM y0 y1 y2 y3
              rcases hA2 with ⟨hb, hAA, rfl, rfl, rfl⟩ | ⟨c, k, hc3, hk4, rfl, rfl, t, hD⟩
              · obtain rfl : q = true := by rw [HQ.out]; exact decide_eq_true hb
                rw [hAA] at hm2
                have HN : Hid (Hs [(bx, .cells #[.int .i64 kd, .int .i64 cc, .int .i64 tt, .int .i64 vv] 30 (0, 0)), (g, .cells (i64s A.words) 3 (0, 0))] w wc b A) := hm2
                clear hm2 hAA hb HQ
                as_aux_lemma =>
                  go_wp2_with fail
                  go_roundw
                  case rel => exact ⟨n + 1, by omega, by omega, by go_num, ⟨_, HN.out.drop, HT.out.next⟩⟩
                  case measure => simp [intOf]; omega
              · obtain rfl : q = false := by rw [HQ.out]; exact decide_eq_false (by omega)
                clear HQ
                as_aux_lemma =>
                  obtain ⟨y0, y1, y2, y3⟩ := boxed hm2
                  have HN : Hid (Hs [(bx, .cells #[.int .i64 kd, .int .i64 (c : Int), .int .i64 (k : Int), .int .i64 vv] 30 (0, 0)), (g, .cells (i64s A.words) 3 (0, 0))] w wc b A2) := hm2
                  have HD : Hid (Do n kd c k vv A A2 v2 i2 f2 t) := hD
                  have HG : Hid (wc.heap[g]? = some (.cells (i64s A.words) 3 (0, 0))) := (hm2.2.choose_spec.2.2.2 _ (List.mem_cons_of_mem _ (List.mem_cons_self ..))).2.2
                  clear hm2 hD
                  go_wp2_with fail
                  refine (HD.out.plain _ g HG.out).mono ?_
                  rintro e w5 ⟨u, rfl, hr5, hk5, hg5⟩
                  have hm5 := turned HN.out hk5 hg5 HX.out
                  clear y0 y1 y2 y3
                  have y1 := (boxed hm5).2.1
                  have HM5 : Hid (Hs [(bx, .cells #[.int .i64 kd, .int .i64 (c : Int), .int .i64 (k : Int), .int .i64 vv] 30 (0, 0)), (g, .cells (i64s A2.words) 3 (0, 0))] w w5 b A2) := hm5
                  have HR5 : Hid (Row w5 u t) := hr5
                  clear hm5 hr5 hk5 hg5 HN HG
                  have e_v : (v2 != v2) = false := by simp
                  have e_i : (i2 != i2) = false := by simp
                  have e_f : (f2 != f2) = false := by simp
                  go_wp2_with fail
                  refine (h_trace HM5.out (c : Int) (by omega) (by rw [HD.out.ok.few.cores]; omega) (by rw [show (c : Int).toNat = c from rfl, HD.out.trace]; exact HD.out.short)).mono ?_
                  rintro e w6 ⟨um, rfl, hr6, -, hk6⟩
                  rw [show (c : Int).toNat = c from rfl, HD.out.trace] at hr6
                  have HR6 : Hid (Row w6 um t ∧ Row w6 u t ∧ Kept [] w5 w6) := ⟨hr6, HR5.out.still hk6, hk6⟩
                  clear hr6 hk6
                  go_wp2_with fail
                  refine (same_any (t := t) HD.out.short HR6.out.1 HR6.out.2.1).mono ?_
                  rintro e w7 ⟨rfl, hk7⟩
                  have HF : Hid (Hs [(bx, .cells #[.int .i64 kd, .int .i64 (c : Int), .int .i64 (k : Int), .int .i64 vv] 30 (0, 0)), (g, .cells (i64s A2.words) 3 (0, 0))] w w7 b A2) := HM5.out.still (HR6.out.2.2.trans hk7 (by simp))
                  clear hk7
                  go_wp2_with fail
                  go_roundw
                  case rel => exact ⟨n + 1, by omega, by omega, by go_num, ⟨_, HF.out.drop, HD.out.ok⟩⟩
                  case measure => simp [intOf]; omega
    · by_cases hx : n < len0
      · have i1 : (n : Int) < (len0 : Int) := by omega
        have i2 : ¬ (n : Int) < 200 := by omega
        as_aux_lemma =>
          have HI3 : Hid (∃ A2, Hs [(g, .cells (i64s A2.words) 3 (0, 0))] w wr b A2 ∧ Last 0 A2) := ⟨A, HM.out, ⟨HT.out.len, HT.out.few⟩⟩
          clear HM HT
          go_wp2_with fail
          go_loopw [28] (fun i wr => ∃ j : Nat, j ≤ 4 ∧ i = .int .i64 (j : Int) ∧ Hid (∃ A2, Hs [(g, .cells (i64s A2.words) 3 (0, 0))] w wr b A2 ∧ Last j A2)) (fun i _ => (4 - intOf i).toNat)
          case atStart => exact ⟨0, by omega, rfl, HI3⟩
          case round =>
            obtain ⟨j, hj, rfl, HR3⟩ := hrel
            obtain ⟨A2, hm2, hT2⟩ := HR3.out
            have HM2 : Hid (Hs [(g, .cells (i64s A2.words) 3 (0, 0))] w wr b A2) := hm2
            have HT2 : Hid (Last j A2) := hT2
            clear HI3 HR3 hm2 hT2
            by_cases hj4 : j < 4
            · have j0 : (0 : Int) ≤ (j : Int) := by omega
              have j1 : (j : Int) < 4 := by omega
              go_wp2_with fail
              refine (h_load HM2.out 0 (j : Int) (by omega) (by rw [HT2.out.few.cores]; omega) (by omega) (by rw [HT2.out.len]; omega) (Nat.lt_of_le_of_lt (HT2.out.few.many 0) (by omega))).mono ?_
              rintro e w4 ⟨rfl, hm4⟩
              have y0 : w4.cell? ⟨g, j, none⟩ = some (.int .i64 (wordAt A2.words j)) := words_cell (hm4.2.choose_spec.2.2.2 _ (List.mem_cons_self ..)).2.2 (by rw [HT2.out.len]; exact hj4)
              rw [show (j : Int).toNat = j from rfl]
              have HN2 : Hid (Hs [(g, .cells (i64s A2.words) 3 (0, 0))] w w4 b (A2.touch 0 j none)) := hm4
              clear hm4
              obtain ⟨q, hq⟩ : ∃ q, wordAt A2.words j = q := ⟨_, rfl⟩
              rw [hq] at y0 ⊢
              clear hq
              go_wp2_with (first
                | (go_at_call 8; refine (num _ _).mono ?_; rintro e w' ⟨rfl, rfl⟩))
              go_roundw
              case rel => exact ⟨j + 1, by omega, by go_num, ⟨_, HN2.out, ⟨HT2.out.len, HT2.out.few.touch 0 j none (by omega)⟩⟩⟩
              case measure => simp [intOf]; omega
            · have j1 : ¬ (j : Int) < 4 := by omega
              go_wp2_with (first
                | (go_at_call 20; refine (awake_any _).mono ?_; rintro e w7 ⟨rfl, hK7⟩))
              go_ret
              exact ⟨rfl, HM2.out.1.trans hK7 (by simp)⟩
      · have i1 : ¬ (n : Int) < (len0 : Int) := by omega
        as_aux_lemma =>
          have HI3 : Hid (∃ A2, Hs [(g, .cells (i64s A2.words) 3 (0, 0))] w wr b A2 ∧ Last 0 A2) := ⟨A, HM.out, ⟨HT.out.len, HT.out.few⟩⟩
          clear HM HT
          go_wp2_with fail
          go_loopw [28] (fun i wr => ∃ j : Nat, j ≤ 4 ∧ i = .int .i64 (j : Int) ∧ Hid (∃ A2, Hs [(g, .cells (i64s A2.words) 3 (0, 0))] w wr b A2 ∧ Last j A2)) (fun i _ => (4 - intOf i).toNat)
          case atStart => exact ⟨0, by omega, rfl, HI3⟩
          case round =>
            obtain ⟨j, hj, rfl, HR3⟩ := hrel
            obtain ⟨A2, hm2, hT2⟩ := HR3.out
            have HM2 : Hid (Hs [(g, .cells (i64s A2.words) 3 (0, 0))] w wr b A2) := hm2
            have HT2 : Hid (Last j A2) := hT2
            clear HI3 HR3 hm2 hT2
            by_cases hj4 : j < 4
            · have j0 : (0 : Int) ≤ (j : Int) := by omega
              have j1 : (j : Int) < 4 := by omega
              go_wp2_with fail
              refine (h_load HM2.out 0 (j : Int) (by omega) (by rw [HT2.out.few.cores]; omega) (by omega) (by rw [HT2.out.len]; omega) (Nat.lt_of_le_of_lt (HT2.out.few.many 0) (by omega))).mono ?_
              rintro e w4 ⟨rfl, hm4⟩
              have y0 : w4.cell? ⟨g, j, none⟩ = some (.int .i64 (wordAt A2.words j)) := words_cell (hm4.2.choose_spec.2.2.2 _ (List.mem_cons_self ..)).2.2 (by rw [HT2.out.len]; exact hj4)
              rw [show (j : Int).toNat = j from rfl]
              have HN2 : Hid (Hs [(g, .cells (i64s A2.words) 3 (0, 0))] w w4 b (A2.touch 0 j none)) := hm4
              clear hm4
              obtain ⟨q, hq⟩ : ∃ q, wordAt A2.words j = q := ⟨_, rfl⟩
              rw [hq] at y0 ⊢
              clear hq
              go_wp2_with (first
                | (go_at_call 8; refine (num _ _).mono ?_; rintro e w' ⟨rfl, rfl⟩))
              go_roundw
              case rel => exact ⟨j + 1, by omega, by go_num, ⟨_, HN2.out, ⟨HT2.out.len, HT2.out.few.touch 0 j none (by omega)⟩⟩⟩
              case measure => simp [intOf]; omega
            · have j1 : ¬ (j : Int) < 4 := by omega
              go_wp2_with (first
                | (go_at_call 20; refine (awake_any _).mono ?_; rintro e w7 ⟨rfl, hK7⟩))
              go_ret
              exact ⟨rfl, HM2.out.1.trans hK7 (by simp)⟩

theorem walk (a : Option Addr) (len cap : Nat) (w : World) (ha : IsActs w a len) :
    Calls Try.prog 3 #[.slice a len cap] w fun e w' => e = .returned (.bool true) ∧ Below w.heap.size w w' :=
  (acts_all a len cap w ha).mono fun e w' ⟨he, hk⟩ => ⟨he, hk.below (Nat.le_refl _) (by simp)⟩

set_option maxRecDepth 100000 in
theorem lifted (os : Os) (started : os.Started) (H : Type) (enc : TypeId × Value → H) :
    ReturnsInHanded {} Try.checked os 3 .any (Rows.lockActsSpec.pre6 enc Try.prog Try.f3 Rows.lockActsRow.domain false) (Rows.lockActsSpec.post enc Try.prog Try.f3 false true false false) := by
  refine returnsInHanded_of_change (C := Try.checked) own started (by kernel_rfl) Try.func3
    (ChangeSpec.witness6 (enc := enc) (C := Try.checked) false ⟨#[], #[.slice none 0 0], []⟩ 8 (by kernel_rfl) (by kernel_rfl) (by kernel_rfl) (by kernel_rfl)) ?_
  intro W base args ds gs before hval0 hW hcnd _
  have hval : ∀ (j : Nat) t v, Try.f3.params[j]? = some t → args[j]? = some v → Value.okWide Try.prog W .any base t v := hval0
  have hW' := hW
  obtain ⟨p, q, hA0, hV, rfl, hfz, hnd⟩ := hW
  have hA : DataW.TrodAll enc Try.prog W 0 (fun _ => true) true Try.f3.params.toList args.toList ds p := hA0
  rw [Try.params3] at hA hval
  obtain ⟨v0, vs0, d0, ds0, p0, q0, hargs, rfl, rfl, h0, r0⟩ := trodAll_cons hA
  obtain ⟨rfl, rfl, rfl⟩ := trodAll_nil r0
  obtain rfl : args = #[v0] := by cases args; simp_all
  obtain ⟨rfl, rfl⟩ := trodVars_none hV
  obtain ⟨a0, len0, cap0, rfl⟩ := okWide_slice Try.underlying22 (hval 0 22 v0 rfl rfl)
  have k0 := h0
  have lt0 : ∀ x ∈ p0, x.block < W.heap.size := by obtain ⟨m, hm⟩ := k0; exact DataW.trod_lt m _ _ _ hm
  have w0 : IsActs W a0 len0 := by
    obtain ⟨fuel, hf⟩ := h0
    exact acts_at hf
  clear hA0 hval0
  refine (walk a0 len0 cap0 W w0).mono fun e W' ⟨he, bel⟩ => ?_
  subst he
  exact ⟨_, rfl, _, _, _, [], _, [], hW', trodAll_mk1 (shut_bool Try.underlying4 _), (trodAll_cons_mk (Below.trod laidOut (by kernel_rfl) (of_decide_eq_true (by kernel_rfl)) k0 bel lt0) trodAll_mk0), rfl, bel.frame _, fun h => by cases h⟩

theorem over : Rows.lockActsRow.holds Try.pinned (OpenSpec.ofChange Rows.lockActsSpec) :=
  OpenClaim.holds_of_wide 3 Try.f3 rfl rfl rfl rfl rfl rfl rfl ⟨rfl, rfl, rfl, rfl, rfl⟩ rfl rfl rfl rfl rfl (by kernel_rfl) Try.func3 (by kernel_rfl)
    (of_decide_eq_true (by kernel_rfl)) (by unfold Func.isWrapper; first | (rw [if_pos (by decide +kernel)]; kernel_rfl) | (rw [if_neg (by decide +kernel)]; exact ⟨rfl, rfl⟩))
    (fun os started H enc _ => lifted os started H enc)

end Go.Proofs.Ytokljdljdkbbnaa.lockActs

namespace Go.Proofs.Ytokljdljdkbbnaa
theorem lockActs_holds : Rows.LockActsSaid := lockActs.over
#print axioms lockActs_holds
end Go.Proofs.Ytokljdljdkbbnaa
