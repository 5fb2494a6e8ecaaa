/-
  Pages to numbers under any calls are as a list.
-/
import Derived.Test.YthndjlcibiaoiaaRows
import Derived.Test.YthndjlcibiaoiaaJr
import Derived.WalkKit
import Derived.ProofKit
import Derived.OpenShut
import Derived.ShutString
import Derived.ChangeOld
import Derived.Below
import Derived.Deep.Slices
import Derived.Deep.CutRange
import Derived.Deep.CutBlock
namespace Go.Proofs.Ythndjlcibiaoiaa.radixActs
open Go.ChangeShapes Go.WideShapes Go.ChangeAt Go.RowKit
open Go.ChangeMaps (open_string shut_string)
set_option linter.unusedVariables false

theorem own : ownKnob Try.prog.godebug = none := by kernel_rfl
theorem laidOut : laidOutB Try.prog = true := by kernel_rfl

/-- An act as it lies. -/
def ActAt (w : World) (B off i : Nat) (k c t v : Int) : Prop := w.cell? ⟨B, off + i * 4, none⟩ = some (.int .i64 k) ∧ w.cell? ⟨B, off + i * 4 + 1, none⟩ = some (.int .i64 c) ∧ w.cell? ⟨B, off + i * 4 + 2, none⟩ = some (.int .i64 t) ∧ w.cell? ⟨B, off + i * 4 + 3, none⟩ = some (.int .i64 v)

theorem ActAt.kept {w w' : World} {B off i : Nat} {k c t v : Int} (h : ActAt w B off i k c t v) (hk : Kept [] w w') : ActAt w' B off i k c t v :=
  ⟨hk.cell h.1 (by simp), hk.cell h.2.1 (by simp), hk.cell h.2.2.1 (by simp), hk.cell h.2.2.2 (by simp)⟩

/-- The acts as they lie. -/
def IsActs (w : World) (a : Option Addr) (len : Nat) : Prop :=
  len = 0 ∨ ∃ B off, ∃ K C T V : Nat → Int, a = some ⟨B, off, none⟩ ∧ len ≤ 9223372036854775807 ∧ ∀ i, i < len → ActAt w B off i (K i) (C i) (T i) (V i)

theorem acts_at {H : Type} {enc : TypeId × Value → H} {w : World} {base : Nat} {spare : Nat → Bool} {held : Bool} {fuel : Nat} {a : Option Addr} {len cap : Nat} {x : DataW H × List MemPlace}
    (h : DataW.trod enc Try.prog w base spare held fuel 22 [.slice a len cap] = some x) : IsActs w a len := by
  rcases Deep.open_slice Try.underlying22 h with ⟨hcs, _⟩ | ⟨a', len', cap', m, n, D, Pl, hcs, hb, hl, hm, hmm, _, hx⟩
  · simp at hcs
    exact Or.inl hcs.2.1
  · simp at hcs
    obtain ⟨rfl, rfl, rfl⟩ := hcs
    by_cases h0 : len = 0
    · exact Or.inl h0
    have hlm : len ≤ m := by rw [hmm]; split <;> omega
    have ce : Try.prog.cellsOf 33 = 4 := by kernel_rfl
    rw [ce] at hx
    have each : ∀ i, i < len → ∃ q : Int × Int × Int × Int, w.cell? (a'.add (i * 4)) = some (.int .i64 q.1) ∧ w.cell? (a'.add (i * 4 + 1)) = some (.int .i64 q.2.1) ∧ w.cell? (a'.add (i * 4 + 2)) = some (.int .i64 q.2.2.1) ∧ w.cell? (a'.add (i * 4 + 3)) = some (.int .i64 q.2.2.2) := by
      intro i hi
      obtain ⟨cs', h1, h2⟩ := hx i (by omega)
      obtain ⟨_, hlen, hcell⟩ := World.cells?_some h1
      obtain ⟨xs, k, hk, hxy, _, hxl, hf⟩ := DataW.trod_struct Try.underlying33 h2
      match xs, hxl, cs', hlen with
      | [y0, y1, y2, y3], _, [v0, v1, v2, v3], _ =>
        have g0 := hf 0 _ rfl
        have g1 := hf 1 _ rfl
        have g2 := hf 2 _ rfl
        have g3 := hf 3 _ rfl
        simp [show Try.prog.cellsOf 3 = 1 from by kernel_rfl] at g0 g1 g2 g3
        have e0 := hcell 0 (by omega)
        have e1 := hcell 1 (by omega)
        have e2 := hcell 2 (by omega)
        have e3 := hcell 3 (by omega)
        rw [Deep.add_add] at e0 e1 e2 e3
        obtain ⟨z0, q0, -, -⟩ := DataW.trod_int Try.underlying3 g0
        obtain ⟨z1, q1, -, -⟩ := DataW.trod_int Try.underlying3 g1
        obtain ⟨z2, q2, -, -⟩ := DataW.trod_int Try.underlying3 g2
        obtain ⟨z3, q3, -, -⟩ := DataW.trod_int Try.underlying3 g3
        simp at q0 q1 q2 q3 e0 e1 e2 e3
        subst q0 q1 q2 q3
        exact ⟨(z0, z1, z2, z3), e0, e1, e2, e3⟩
    obtain ⟨q, hq⟩ := Deep.choose_lt (α := Int × Int × Int × Int) each
    obtain ⟨B, off, spot⟩ := a'
    have hspot : spot = none := by simpa [Addr.add] using World.cell?_spot (hq 0 (by omega)).1
    subst hspot
    refine Or.inr ⟨B, off, fun i => (q i).1, fun i => (q i).2.1, fun i => (q i).2.2.1, fun i => (q i).2.2.2, rfl, by unfold maxLen at hm; omega, fun i hi => ?_⟩
    have := hq i hi
    simp only [add_plain] at this
    exact ⟨this.1, this.2.1, this.2.2.1, this.2.2.2⟩

set_option maxRecDepth 100000 in
set_option maxHeartbeats 16000000 in
theorem main (a0 : Option Addr) (len0 cap0 : Nat) (w : World) (ha : IsActs w a0 len0) :
    Calls Try.prog 3 #[.slice a0 len0 cap0] w fun e w' => e = .returned (.bool true) ∧ Kept [] w w' := by
  have HA : Hid (IsActs w a0 len0) := ha
  clear ha
  have hmk : ∀ W : World, (Instr.makeSlice 31 (.int .i64 16) (.int .i64 16)).run Try.prog W = .ok (.slice (some ⟨W.heap.size, 0, none⟩) 16 16) (W.alloc (.cells (i64s (List.replicate 16 0)) 3)) := fun W => make_words 16 (by omega) W
  go_enter Try.func3, Try.ntmps3
  go_wp2_with fail
  refine (h_new w 300 3 (by omega) (by omega) (by omega) (by omega)).mono ?_
  rintro e w2 ⟨b, rfl, hm⟩
  have H1 : Hid (_) := hm
  clear hm
  go_wp2_with fail
  refine (f_new (I := AnyT) (k := 3) (L := 300) H1.out 20 256 _ _ rfl rfl (by omega) (by omega) (fun _ _ _ _ => trivial) trivial).mono ?_
  rintro e w3 ⟨g, rfl, h3⟩
  have H3 : Hid (Jr w (w3.alloc (.cells (i64s (List.replicate 16 0)) 3)) b g w3.heap.size 20 (fun _ => 0) fun _ => 0) := by
    have := Jr.start h3
    unfold vb at this
    rw [← zeros_list] at this
    exact this
  clear h3 H1
  obtain ⟨bv, hbv⟩ : ∃ bv, w3.heap.size = bv := ⟨_, rfl⟩
  rw [hbv] at H3
  have HBV : Hid (_) := hbv
  clear hbv
  go_wp2_with (first
    | (go_at_call 9; refine (num _ _).mono ?_; rintro e w' ⟨rfl, rfl⟩))
  rw [HBV.out]
  clear hmk HBV
  go_loopw [8] (fun i wr => ∃ (r : Nat) (V : Nat → Int), i = .int .i64 (r : Int) ∧ r ≤ len0 ∧ r ≤ 200 ∧ Hid (Jr w wr b g bv (20 + 64 * r) V V)) (fun i _ => (200 - intOf i).toNat)
  case atStart => exact ⟨0, _, rfl, by omega, by omega, H3.out⟩
  case round =>
    clear H3
    obtain ⟨r, V, rfl, hr, hr2, HJ⟩ := hrel
    by_cases hlt : r < len0 ∧ r < 200
    · obtain ⟨hlt, hlt2⟩ := hlt
      have i1 : (0 : Int) ≤ (r : Int) := by omega
      have i2 : (r : Int) < (len0 : Int) := by omega
      have i3 : (r : Int) < 200 := by omega
      rcases HA.out with h0 | ⟨B, off, K, C, T, Z, rfl, hl, hc⟩
      · omega
      clear HA
      obtain ⟨x0, x1, x2, x3⟩ := (hc r hlt).kept (Rb.old (Jr.rb HJ.out))
      clear hc
      generalize K r = kd at x0
      generalize C r = cc at x1
      generalize T r = pp at x2
      generalize Z r = vv at x3
      have HX : Hid (_) := Jr.push HJ.out (xo kd cc pp vv)
      obtain ⟨W0, h0⟩ : ∃ W0, W0 = wr.alloc (xo kd cc pp vv) := ⟨_, rfl⟩
      rw [← h0] at HX
      have hW0 : Hid (wr.alloc (.cells #[.int .i64 kd, .int .i64 cc, .int .i64 pp, .int .i64 vv] 33 (0, 0)) = W0) := h0.symm
      clear h0 HJ
      go_upto_region 10 with fail
      rw [hW0.out]
      clear hW0 x0 x1 x2 x3
      generalize wr.heap.size = X at *
      obtain ⟨y0, y1, y2, y3⟩ := Jx.act HX.out
      go_cut [10] from 43 to 188 (fun c wx => ∃ q : Bool, c = .bool q ∧ Hid (q = decide (cc < 0 ∨ 2 < cc)) ∧ wx = W0)
      case first =>
        by_cases b1 : cc < 0
        · as_aux_lemma =>
            go_wp2_with fail
            go_meet
            case rel => exact ⟨_, rfl, (decide_eq_true (p := cc < 0 ∨ 2 < cc) (by omega)).symm, rfl⟩
        · by_cases b2 : 2 < cc
          · as_aux_lemma =>
              go_wp2_with fail
              go_meet
              case rel => exact ⟨_, rfl, (decide_eq_true (p := cc < 0 ∨ 2 < cc) (by omega)).symm, rfl⟩
          · as_aux_lemma =>
              go_wp2_with fail
              go_meet
              case rel => exact ⟨_, rfl, (decide_eq_false (p := cc < 0 ∨ 2 < cc) (by omega)).symm, rfl⟩
      case rest =>
        obtain ⟨q, rfl, HQ, rfl⟩ := hcut
        go_upto_region 11 with fail
        go_cut [11] from 43 to 188 (fun c wx => ∃ q : Bool, c = .bool q ∧ Hid (q = decide (pp < 0 ∨ 16 ≤ pp)) ∧ wx = wc)
        case first =>
          by_cases b1 : pp < 0
          · as_aux_lemma =>
              go_wp2_with fail
              go_meet
              case rel => exact ⟨_, rfl, (decide_eq_true (p := pp < 0 ∨ 16 ≤ pp) (by omega)).symm, rfl⟩
          · by_cases b2 : 16 ≤ pp
            · as_aux_lemma =>
                go_wp2_with fail
                go_meet
                case rel => exact ⟨_, rfl, (decide_eq_true (p := pp < 0 ∨ 16 ≤ pp) (by omega)).symm, rfl⟩
            · as_aux_lemma =>
                go_wp2_with fail
                go_meet
                case rel => exact ⟨_, rfl, (decide_eq_false (p := pp < 0 ∨ 16 ≤ pp) (by omega)).symm, rfl⟩
        case rest =>
          obtain ⟨fr, rfl, HF, rfl⟩ := hcut
          by_cases hb : cc < 0 ∨ 2 < cc
          · obtain rfl : q = true := by rw [HQ.out]; exact decide_eq_true hb
            clear HQ HF
            by_cases k4 : kd < 4
            · as_aux_lemma =>
                go_wp2_with fail
                refine (r_set_form (Jx.rb HX.out) cc pp vv (Or.inl (by omega))).mono ?_
                rintro e w1 ⟨rfl, rfl⟩
                go_wp2_with (first
                  | (go_at_call 9; refine (num _ _).mono ?_; rintro e w' ⟨rfl, rfl⟩))
                go_roundw
                case rel => exact ⟨r + 1, _, by go_num, by omega, by omega, (Jx.drop HX.out).mono (by omega)⟩
                case measure => simp [intOf]; omega

            by_cases k7 : kd < 7
            · as_aux_lemma =>
                go_wp2_with fail
                refine (r_get_form (Jx.rb HX.out) cc pp (by omega)).mono ?_
                rintro e w1 ⟨rfl, rfl⟩
                go_wp2_with (first
                  | (go_at_call 9; refine (num _ _).mono ?_; rintro e w' ⟨rfl, rfl⟩))
                go_roundw
                case rel => exact ⟨r + 1, _, by go_num, by omega, by omega, (Jx.drop HX.out).mono (by omega)⟩
                case measure => simp [intOf]; omega

            by_cases ke : kd = 7
            · subst ke
              clear k4 k7
              by_cases hp0 : pp < 0
              · as_aux_lemma =>
                  have d1 : decide (pp < 0) = true := by simp; omega
                  have hmax := max_neg pp hp0
                  go_wp2_with fail
                  refine (r_cut_form (Jx.rb HX.out) cc pp (by omega)).mono ?_
                  rintro e w1 ⟨rfl, rfl⟩
                  go_wp2_with (first
                    | (go_at_call 9; refine (num _ _).mono ?_; rintro e w' ⟨rfl, rfl⟩))
                  clear y0 y1 y2 y3 hmax
                  go_loopw [20] (fun i wr => i = .int .i64 0 ∧ Hid (Jx w wr b g bv (20 + 64 * r) V V X (xo 7 cc pp vv))) (fun _ _ => 0)
                  case atStart => exact ⟨rfl, HX.out⟩
                  case round =>
                    clear HX
                    obtain ⟨rfl, HX⟩ := hrel
                    go_wp2_with fail
                    go_roundw
                    case rel => exact ⟨r + 1, _, by go_num, by omega, by omega, (Jx.drop HX.out).mono (by omega)⟩
                    case measure => simp [intOf]; omega

              by_cases hp1 : pp < 16
              · have hp2 : ¬ 16 < pp := by omega
                as_aux_lemma =>
                  have d1 : decide (pp < 0) = false := by simp; omega
                  have d2 : decide (16 < pp) = false := by simp; omega
                  have d3 : decide (pp < 16) = true := by simp; omega
                  have hmax := max_pos pp (by omega)
                  go_wp2_with fail
                  refine (r_cut_form (Jx.rb HX.out) cc pp (by omega)).mono ?_
                  rintro e w1 ⟨rfl, rfl⟩
                  go_wp2_with (first
                    | (go_at_call 9; refine (num _ _).mono ?_; rintro e w' ⟨rfl, rfl⟩))
                  clear y0 y1 y2 y3 hmax
                  go_loopw [20] (fun i wr => i = .int .i64 pp ∧ Hid (Jx w wr b g bv (20 + 64 * r) V V X (xo 7 cc pp vv))) (fun _ _ => 0)
                  case atStart => exact ⟨rfl, HX.out⟩
                  case round =>
                    clear HX
                    obtain ⟨rfl, HX⟩ := hrel
                    go_wp2_with fail
                    go_roundw
                    case rel => exact ⟨r + 1, _, by go_num, by omega, by omega, (Jx.drop HX.out).mono (by omega)⟩
                    case measure => simp [intOf]; omega

              by_cases hp2 : 16 < pp
              · as_aux_lemma =>
                  have d1 : decide (pp < 0) = false := by simp; omega
                  have d2 : decide (16 < pp) = true := by simp; omega
                  have d3 : decide (pp < 16) = false := by simp; omega
                  have hmax := max_pos pp (by omega)
                  go_wp2_with fail
                  refine (r_cut_form (Jx.rb HX.out) cc pp (by omega)).mono ?_
                  rintro e w1 ⟨rfl, rfl⟩
                  go_wp2_with (first
                    | (go_at_call 9; refine (num _ _).mono ?_; rintro e w' ⟨rfl, rfl⟩))
                  clear y0 y1 y2 y3 hmax
                  go_loopw [20] (fun i wr => i = .int .i64 pp ∧ Hid (Jx w wr b g bv (20 + 64 * r) V V X (xo 7 cc pp vv))) (fun _ _ => 0)
                  case atStart => exact ⟨rfl, HX.out⟩
                  case round =>
                    clear HX
                    obtain ⟨rfl, HX⟩ := hrel
                    go_wp2_with fail
                    go_roundw
                    case rel => exact ⟨r + 1, _, by go_num, by omega, by omega, (Jx.drop HX.out).mono (by omega)⟩
                    case measure => simp [intOf]; omega

              as_aux_lemma =>
                have d1 : decide (pp < 0) = false := by simp; omega
                have d2 : decide (16 < pp) = false := by simp; omega
                have d3 : decide (pp < 16) = false := by simp; omega
                have hmax := max_pos pp (by omega)
                go_wp2_with fail
                refine (r_cut_form (Jx.rb HX.out) cc pp (by omega)).mono ?_
                rintro e w1 ⟨rfl, rfl⟩
                go_wp2_with (first
                  | (go_at_call 9; refine (num _ _).mono ?_; rintro e w' ⟨rfl, rfl⟩))
                clear y0 y1 y2 y3 hmax
                go_loopw [20] (fun i wr => i = .int .i64 pp ∧ Hid (Jx w wr b g bv (20 + 64 * r) V V X (xo 7 cc pp vv))) (fun _ _ => 0)
                case atStart => exact ⟨rfl, HX.out⟩
                case round =>
                  clear HX
                  obtain ⟨rfl, HX⟩ := hrel
                  go_wp2_with fail
                  go_roundw
                  case rel => exact ⟨r + 1, _, by go_num, by omega, by omega, (Jx.drop HX.out).mono (by omega)⟩
                  case measure => simp [intOf]; omega

            have t7 : (kd == 7) = false := by simp [ke]
            clear ke
            as_aux_lemma =>
              go_wp2_with fail
              refine (p_bad (Jx.rb HX.out) bv cc (by omega)).mono ?_
              rintro e w1 ⟨rfl, hk⟩
              have H1 : Hid (_) := Jx.still HX.out hk
              clear hk HX
              go_wp2_with fail
              go_roundw
              case rel => exact ⟨r + 1, _, by go_num, by omega, by omega, (Jx.drop H1.out).mono (by omega)⟩
              case measure => simp [intOf]; omega

          · obtain rfl : q = false := by rw [HQ.out]; exact decide_eq_false hb
            clear HQ
            obtain ⟨c, rfl⟩ := Int.eq_ofNat_of_zero_le (show 0 ≤ cc by omega)
            have hc : c < 3 := by omega
            have hc1 : (c : Int) < 3 := by omega
            clear hb
            by_cases k4 : kd < 4
            · by_cases hv : vv < 0
              · clear HF
                as_aux_lemma =>
                  go_wp2_with fail
                  refine (r_set_form (Jx.rb HX.out) (c : Int) pp vv (Or.inr hv)).mono ?_
                  rintro e w1 ⟨rfl, rfl⟩
                  go_wp2_with (first
                    | (go_at_call 9; refine (num _ _).mono ?_; rintro e w' ⟨rfl, rfl⟩))
                  go_roundw
                  case rel => exact ⟨r + 1, _, by go_num, by omega, by omega, (Jx.drop HX.out).mono (by omega)⟩
                  case measure => simp [intOf]; omega

              by_cases hf : pp < 0 ∨ 16 ≤ pp
              · obtain rfl : fr = true := by rw [HF.out]; exact decide_eq_true hf
                clear HF
                as_aux_lemma =>
                  have dv : decide (vv < 0) = false := by simp; omega
                  go_wp2_with fail
                  refine (r_set_page (Jx.rb HX.out) c pp vv hc (by omega) hf).mono ?_
                  rintro e w1 ⟨rfl, rfl⟩
                  go_wp2_with (first
                    | (go_at_call 9; refine (num _ _).mono ?_; rintro e w' ⟨rfl, rfl⟩))
                  go_roundw
                  case rel => exact ⟨r + 1, _, by go_num, by omega, by omega, (Jx.drop HX.out).mono (by omega)⟩
                  case measure => simp [intOf]; omega

              obtain rfl : fr = false := by rw [HF.out]; exact decide_eq_false hf
              clear HF
              obtain ⟨p, rfl⟩ := Int.eq_ofNat_of_zero_le (show 0 ≤ pp by omega)
              have hp : p < 16 := by omega
              have hp1 : (p : Int) < 16 := by omega
              have hp2 : (0 : Int) ≤ (p : Int) := by omega
              clear hf
              as_aux_lemma =>
                have dv : decide (vv < 0) = false := by simp; omega
                go_wp2_with fail
                refine (r_set (I1 := AnyT) (I2 := AnyT) (Jx.rb HX.out) c p vv hc hp (by omega) (fun _ _ => trivial) (fun _ _ => trivial) (by omega)).mono ?_
                rintro e w1 ⟨rfl, h1⟩
                have H1 : Hid (_) := Jx.by_ HX.out h1
                clear h1 HX y0 y1 y2 y3
                obtain ⟨y0, y1, y2, y3⟩ := Jx.act H1.out
                obtain ⟨l0, l1⟩ := Jx.list H1.out hp
                have H2 : Hid (_) := Jx.put H1.out p vv
                clear H1
                go_wp2_with (first
                  | (go_at_call 9; refine (num _ _).mono ?_; rintro e w' ⟨rfl, rfl⟩))
                go_roundw
                case rel => exact ⟨r + 1, _, by go_num, by omega, by omega, (Jx.drop H2.out).mono (by omega)⟩
                case measure => simp [intOf]; omega

            by_cases k7 : kd < 7
            · by_cases hf : pp < 0 ∨ 16 ≤ pp
              · obtain rfl : fr = true := by rw [HF.out]; exact decide_eq_true hf
                clear HF
                as_aux_lemma =>
                  go_wp2_with fail
                  refine (r_get_page (Jx.rb HX.out) c pp hc hf).mono ?_
                  rintro e w1 ⟨rfl, rfl⟩
                  go_wp2_with (first
                    | (go_at_call 9; refine (num _ _).mono ?_; rintro e w' ⟨rfl, rfl⟩))
                  go_roundw
                  case rel => exact ⟨r + 1, _, by go_num, by omega, by omega, (Jx.drop HX.out).mono (by omega)⟩
                  case measure => simp [intOf]; omega

              obtain rfl : fr = false := by rw [HF.out]; exact decide_eq_false hf
              clear HF
              obtain ⟨p, rfl⟩ := Int.eq_ofNat_of_zero_le (show 0 ≤ pp by omega)
              have hp : p < 16 := by omega
              have hp1 : (p : Int) < 16 := by omega
              have hp2 : (0 : Int) ≤ (p : Int) := by omega
              clear hf
              as_aux_lemma =>
                go_wp2_with fail
                refine (r_get (I1 := AnyT) (I2 := AnyT) (Jx.rb HX.out) c p hc hp (fun _ _ => trivial) (fun _ _ => trivial) (by omega)).mono ?_
                rintro e w1 ⟨rfl, h1⟩
                have H1 : Hid (_) := Jx.by_ HX.out h1
                clear h1 HX y0 y1 y2 y3
                obtain ⟨y0, y1, y2, y3⟩ := Jx.act H1.out
                obtain ⟨l0, l1⟩ := Jx.list H1.out hp
                obtain ⟨z, hz⟩ : ∃ z, V p = z := ⟨_, rfl⟩
                rw [hz] at l0 ⊢
                have tz : (z != z) = false := by simp
                clear hz
                go_wp2_with (first
                  | (go_at_call 9; refine (num _ _).mono ?_; rintro e w' ⟨rfl, rfl⟩))
                go_roundw
                case rel => exact ⟨r + 1, _, by go_num, by omega, by omega, (Jx.drop H1.out).mono (by omega)⟩
                case measure => simp [intOf]; omega

            by_cases ke : kd = 7
            · subst ke
              clear k4 k7 HF
              by_cases hp0 : pp < 0
              · as_aux_lemma =>
                  have d1 : decide (pp < 0) = true := by simp; omega
                  have hmax := max_neg pp hp0
                  go_wp2_with fail
                  refine (r_cut_page (Jx.rb HX.out) c pp hc (by omega)).mono ?_
                  rintro e w1 ⟨rfl, rfl⟩
                  go_wp2_with (first
                    | (go_at_call 9; refine (num _ _).mono ?_; rintro e w' ⟨rfl, rfl⟩))
                  clear y0 y1 y2 y3 hmax
                  go_loopw [20] (fun i wr => i = .int .i64 0 ∧ Hid (Jx w wr b g bv (20 + 64 * r) V V X (xo 7 (c : Int) pp vv))) (fun _ _ => 0)
                  case atStart => exact ⟨rfl, HX.out⟩
                  case round =>
                    clear HX
                    obtain ⟨rfl, HX⟩ := hrel
                    go_wp2_with fail
                    go_roundw
                    case rel => exact ⟨r + 1, _, by go_num, by omega, by omega, (Jx.drop HX.out).mono (by omega)⟩
                    case measure => simp [intOf]; omega

              by_cases hp2 : 16 < pp
              · have hp1 : ¬ pp < 16 := by omega
                as_aux_lemma =>
                  have d1 : decide (pp < 0) = false := by simp; omega
                  have d2 : decide (16 < pp) = true := by simp; omega
                  have d3 : decide (pp < 16) = false := by simp; omega
                  have hmax := max_pos pp (by omega)
                  go_wp2_with fail
                  refine (r_cut_page (Jx.rb HX.out) c pp hc (by omega)).mono ?_
                  rintro e w1 ⟨rfl, rfl⟩
                  go_wp2_with (first
                    | (go_at_call 9; refine (num _ _).mono ?_; rintro e w' ⟨rfl, rfl⟩))
                  clear y0 y1 y2 y3 hmax
                  go_loopw [20] (fun i wr => i = .int .i64 pp ∧ Hid (Jx w wr b g bv (20 + 64 * r) V V X (xo 7 (c : Int) pp vv))) (fun _ _ => 0)
                  case atStart => exact ⟨rfl, HX.out⟩
                  case round =>
                    clear HX
                    obtain ⟨rfl, HX⟩ := hrel
                    go_wp2_with fail
                    go_roundw
                    case rel => exact ⟨r + 1, _, by go_num, by omega, by omega, (Jx.drop HX.out).mono (by omega)⟩
                    case measure => simp [intOf]; omega

              obtain ⟨p, rfl⟩ := Int.eq_ofNat_of_zero_le (show 0 ≤ pp by omega)
              have hp : p ≤ 16 := by omega
              have hp3 : (p : Int) ≤ 16 := by omega
              clear hp0
              as_aux_lemma =>
                have d1 : decide ((p : Int) < 0) = false := by simp
                have d2 : decide (16 < (p : Int)) = false := by simp; omega
                have hmax := max_pos (p : Int) (by omega)
                go_wp2_with fail
                refine (r_cut (Jx.rb HX.out) c p hc hp (anyR _ _) (anyW _ _) (by omega)).mono ?_
                rintro e w1 ⟨rfl, h1⟩
                have H1 : Hid (_) := Jx.by_ HX.out h1
                clear h1 HX y0 y1 y2 y3
                obtain ⟨y0, y1, y2, y3⟩ := Jx.act H1.out
                go_wp2_with (first
                  | (go_at_call 9; refine (num _ _).mono ?_; rintro e w' ⟨rfl, rfl⟩))
                clear y0 y1 y2 y3 hmax
                go_loopw [20] (fun i wr => ∃ j : Nat, i = .int .i64 (j : Int) ∧ p ≤ j ∧ j ≤ 16 ∧ Hid (Jx w wr b g bv (20 + 64 * r + 48) (cutV V p 16) (cutV V p j) X (xo 7 (c : Int) (p : Int) vv))) (fun i _ => (16 - intOf i).toNat)
                case atStart => exact ⟨p, rfl, by omega, by omega, by rw [cutV_self]; exact H1.out⟩
                case round =>
                  clear H1
                  obtain ⟨j, rfl, hpj, hj, HJ⟩ := hrel
                  by_cases hlj : j < 16
                  · have j0 : (j : Int) < 16 := by omega
                    have j1 : (0 : Int) ≤ (j : Int) := by omega
                    obtain ⟨l0, l1⟩ := Jx.list HJ.out hlj
                    have H2 : Hid (_) := Jx.put HJ.out j 0
                    rw [cutV_next hpj] at H2
                    clear HJ
                    go_wp2_with fail
                    go_roundw
                    case rel => exact ⟨j + 1, by go_num, by omega, by omega, H2.out⟩
                    case measure => simp [intOf]; omega
                  · have e : j = 16 := by omega
                    have j0 : ¬ (j : Int) < 16 := by omega
                    rw [e] at HJ
                    clear e
                    go_wp2_with fail
                    go_roundw
                    case rel => exact ⟨r + 1, _, by go_num, by omega, by omega, (Jx.drop HJ.out).mono (by omega)⟩
                    case measure => simp [intOf]; omega

            have t7 : (kd == 7) = false := by simp [ke]
            clear ke HF
            as_aux_lemma =>
              go_wp2_with fail
              refine (p_good (Jx.rb HX.out) bv (by simp) c hc (anyR _ _) (by omega)).mono ?_
              rintro e w1 ⟨rfl, h1⟩
              have H1 : Hid (_) := Jx.by_ HX.out h1
              clear h1 HX
              go_wp2_with fail
              go_roundw
              case rel => exact ⟨r + 1, _, by go_num, by omega, by omega, (Jx.drop H1.out).mono (by omega)⟩
              case measure => simp [intOf]; omega

    · by_cases hx : r < len0
      · have i1 : (r : Int) < (len0 : Int) := by omega
        have i2 : ¬ (r : Int) < 200 := by omega
        as_aux_lemma =>
          go_wp2_with fail
          refine (p_good (Jr.rb HJ.out) bv (by simp) 0 (by omega) (anyR _ _) (by omega)).mono ?_
          rintro e w5 ⟨rfl, h5⟩
          have H5 : Hid (_) := h5.old
          clear h5 HJ
          go_wp2_with fail
          refine (awake_any _).mono ?_
          rintro e w6 ⟨rfl, hk⟩
          have H6 : Hid (_) := H5.out.trans hk (by simp)
          clear hk H5
          go_wp2_with fail
          go_ret
          exact ⟨rfl, H6.out⟩

      · have i1 : ¬ (r : Int) < (len0 : Int) := by omega
        as_aux_lemma =>
          go_wp2_with fail
          refine (p_good (Jr.rb HJ.out) bv (by simp) 0 (by omega) (anyR _ _) (by omega)).mono ?_
          rintro e w5 ⟨rfl, h5⟩
          have H5 : Hid (_) := h5.old
          clear h5 HJ
          go_wp2_with fail
          refine (awake_any _).mono ?_
          rintro e w6 ⟨rfl, hk⟩
          have H6 : Hid (_) := H5.out.trans hk (by simp)
          clear hk H5
          go_wp2_with fail
          go_ret
          exact ⟨rfl, H6.out⟩

theorem walk (a : Option Addr) (len cap : Nat) (w : World) (ha : IsActs w a len) :
    Calls Try.prog 3 #[.slice a len cap] w fun e w' => e = .returned (.bool true) ∧ Below w.heap.size w w' :=
  (main a len cap w ha).mono fun e w' ⟨he, hk⟩ => ⟨he, hk.below (Nat.le_refl _) (by simp)⟩

set_option maxRecDepth 100000 in
theorem lifted (os : Os) (started : os.Started) (H : Type) (enc : TypeId × Value → H) :
    ReturnsInHanded {} Try.checked os 3 .any (Rows.radixActsSpec.pre6 enc Try.prog Try.f3 Rows.radixActsRow.domain false) (Rows.radixActsSpec.post enc Try.prog Try.f3 false true false false) := by
  refine returnsInHanded_of_change (C := Try.checked) own started (by kernel_rfl) Try.func3
    (ChangeSpec.witness6 (enc := enc) (C := Try.checked) false ⟨#[], #[.slice none 0 0], []⟩ 8 (by kernel_rfl) (by kernel_rfl) (by kernel_rfl) (by kernel_rfl)) ?_
  intro W base args ds gs before hval0 hW hcnd _
  have hval : ∀ (j : Nat) t v, Try.f3.params[j]? = some t → args[j]? = some v → Value.okWide Try.prog W .any base t v := hval0
  have hW' := hW
  obtain ⟨p, q, hA0, hV, rfl, hfz, hnd⟩ := hW
  have hA : DataW.TrodAll enc Try.prog W 0 (fun _ => true) true Try.f3.params.toList args.toList ds p := hA0
  rw [Try.params3] at hA hval
  obtain ⟨v0, vs0, d0, ds0, p0, q0, hargs, rfl, rfl, h0, r0⟩ := trodAll_cons hA
  obtain ⟨rfl, rfl, rfl⟩ := trodAll_nil r0
  obtain rfl : args = #[v0] := by cases args; simp_all
  obtain ⟨rfl, rfl⟩ := trodVars_none hV
  obtain ⟨a0, len0, cap0, rfl⟩ := okWide_slice Try.underlying22 (hval 0 22 v0 rfl rfl)
  have k0 := h0
  have lt0 : ∀ x ∈ p0, x.block < W.heap.size := by obtain ⟨m, hm⟩ := k0; exact DataW.trod_lt m _ _ _ hm
  have w0 : IsActs W a0 len0 := by
    obtain ⟨fuel, hf⟩ := h0
    exact acts_at hf
  clear hA0 hval0
  refine (walk a0 len0 cap0 W w0).mono fun e W' ⟨he, bel⟩ => ?_
  subst he
  exact ⟨_, rfl, _, _, _, [], _, [], hW', trodAll_mk1 (shut_bool Try.underlying4 _), (trodAll_cons_mk (Below.trod laidOut (by kernel_rfl) (of_decide_eq_true (by kernel_rfl)) k0 bel lt0) trodAll_mk0), rfl, bel.frame _, fun h => by cases h⟩

theorem over : Rows.radixActsRow.holds Try.pinned (OpenSpec.ofChange Rows.radixActsSpec) :=
  OpenClaim.holds_of_wide 3 Try.f3 rfl rfl rfl rfl rfl rfl rfl ⟨rfl, rfl, rfl, rfl, rfl⟩ rfl rfl rfl rfl rfl (by kernel_rfl) Try.func3 (by kernel_rfl)
    (of_decide_eq_true (by kernel_rfl)) (by unfold Func.isWrapper; first | (rw [if_pos (by decide +kernel)]; kernel_rfl) | (rw [if_neg (by decide +kernel)]; exact ⟨rfl, rfl⟩))
    (fun os started H enc _ => lifted os started H enc)

end Go.Proofs.Ythndjlcibiaoiaa.radixActs

namespace Go.Proofs.Ythndjlcibiaoiaa
theorem radixActs_holds : Rows.RadixActsSaid := radixActs.over
#print axioms radixActs_holds
end Go.Proofs.Ythndjlcibiaoiaa
