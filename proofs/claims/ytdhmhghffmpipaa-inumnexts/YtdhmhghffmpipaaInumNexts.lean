/-
  Numbers for each core, in any row: each its own, until there are no more; the traces of unlike cores have no word in common.
-/
import Derived.Test.YtdhmhghffmpipaaRows
import Derived.Test.YtdhmhghffmpipaaIb
import Derived.Test.YtdhmhghffmpipaaBits
import Derived.Test.YtdhmhghffmpipaaBt
import Derived.WalkKit
import Derived.ProofKit
import Derived.OpenShut
import Derived.ShutString
import Derived.ChangeOld
import Derived.Below
import Derived.Deep.Slices
import Derived.SizedLaws
namespace Go.Proofs.Ytdhmhghffmpipaa.inumNexts
open Go.ChangeShapes Go.WideShapes Go.ChangeAt Go.RowKit
open Go.ChangeMaps (open_string shut_string)
set_option linter.unusedVariables false

theorem own : ownKnob Try.prog.godebug = none := by kernel_rfl
theorem laidOut : laidOutB Try.prog = true := by kernel_rfl

def IsRow (k : IntKind) (w : World) (a : Option Addr) (len cap : Nat) (zs : List Int) : Prop :=
  (a = none ∧ len = 0 ∧ cap = 0 ∧ zs = []) ∨
  ∃ x, a = some x ∧ len ≤ cap ∧ cap ≤ maxLen ∧ zs.length = cap ∧ (∀ i, i < zs.length → w.cell? (x.add i) = some (.int k (zs.getD i 0))) ∧ ∀ n ∈ zs, (Lit.int k n).wf = true

/-- Each core has touched its own word alone. -/
def Po : Trc → Prop := fun t => ∀ c, ∀ x ∈ t c, x.1 = ((3 + c : Nat) : Int)

theorem po_put (c : Nat) (bw : Bool) : ∀ t, Po t → Po (tput t c (((3 + c : Nat) : Int), bw)) := by
  intro t h d x hx
  unfold tput at hx
  by_cases e : d = c
  · rw [if_pos e] at hx
    rcases List.mem_append.1 hx with h1 | h1
    · rw [e]; exact h c x h1
    · rw [List.mem_singleton] at h1; rw [h1, e]
  · rw [if_neg e] at hx
    exact h d x hx

theorem po_clear (c : Nat) : ∀ t, Po t → Po (tclr t c) := by
  intro t h d x hx
  unfold tclr at hx
  by_cases e : d = c
  · rw [if_pos e] at hx; simp at hx
  · rw [if_neg e] at hx; exact h d x hx

theorem po_far {t s : Trc} {c d : Nat} (h1 : Po t) (h2 : Po s) (hd : d < c) : Far (t c) (s d) := by
  intro x hx y hy e
  have e1 := h1 c x hx
  have e2 := h2 d y hy
  rw [e1, e2] at e
  omega

/-- The core that a pick tells. -/
theorem pick_core (z : Int) (k : Nat) (hk : 1 ≤ k) (hk8 : k ≤ 8) : ∃ r : Int, z.tmod ((k : Int) + 2) = r ∧ -10 ≤ r ∧ r ≤ 10 := by
  have h1 := Int.tmod_lt_of_pos z (show (0 : Int) < (k : Int) + 2 by omega)
  have h2 := Int.lt_tmod_of_pos z (show (0 : Int) < (k : Int) + 2 by omega)
  exact ⟨_, rfl, by omega, by omega⟩

set_option maxRecDepth 100000 in
set_option maxHeartbeats 8000000 in
theorem main (x : Int) (a0 : Option Addr) (len0 cap0 : Nat) (z0 : List Int) (k : Nat) (w : World) (hk1 : 1 ≤ k) (hk8 : k ≤ 8) (hx : wrap64 (1 + bits .and .i64 x 7) = (k : Int)) (hl : len0 ≤ 9223372036854775807) (hc : ∀ i, i < len0 → ∃ bb off, a0 = some ⟨bb, off, none⟩ ∧ w.cell? ⟨bb, off + i, none⟩ = some (.int .i64 (wordAt z0 i))) :
    Calls Try.prog 3 #[.int .i64 x, .slice a0 len0 cap0] w fun e w' => e = .returned (.bool true) ∧ Kept [] w w' := by
  have HCE : Hid (_ ∧ _) := ⟨hc, hx⟩
  clear hc hx
  have hmk := make_words k (by omega)
  rw [rowF_zeros] at hmk
  obtain ⟨rz, hrz⟩ : ∃ rz, rz = rowF k (fun _ => .int .i64 0) := ⟨_, rfl⟩
  rw [← hrz] at hmk
  have HZ : Hid (_) := hrz
  clear hrz
  go_enter Try.func3, Try.ntmps3
  go_wp2_with fail
  rw [HCE.out.2]
  refine (h_new w 20 (k : Int) (by omega) (by omega) (by omega) (by omega)).mono ?_
  rintro e w2 ⟨b, rfl, hm⟩
  rw [Int.toNat_natCast] at hm
  have H1 : Hid (_) := hm
  clear hm
  go_wp2_with fail
  refine (f_new (I := Po) (k := k) (L := 20) H1.out 3 _ rfl (by omega) (fun c => po_put c true) (fun c x hx => by simp at hx)).mono ?_
  rintro e w3 ⟨g, rfl, h3⟩
  have H3 : Hid (_) := h3
  clear h3 H1
  go_wp2_with (first
    | (go_at_call 9; refine (num _ _).mono ?_; rintro e w' ⟨rfl, rfl⟩))
  try rw [HCE.out.2]
  go_loopw [10] (fun i wr => ∃ c : Nat, i = .int .i64 (c : Int) ∧ c ≤ k ∧ Hid (Nb Po [(g, box b 3)] w wr b g 3 k 20 (0 + k) (fun _ => 0))) (fun i _ => (k - intOf i).toNat)
  case atStart => exact ⟨0, rfl, by omega, H3.out⟩
  case round =>
    clear H3
    obtain ⟨c, rfl, hck, HJ⟩ := hrel
    by_cases hlc : c < k
    · have i0 : (c : Int) < (k : Int) := by omega
      go_wp2_with fail
      refine (n_clear (I' := Po) HJ.out c hlc (po_clear c)).mono ?_
      rintro e w4 ⟨rfl, h4⟩
      have H4 : Hid (_) := h4
      clear h4 HJ
      go_wp2_with fail
      go_roundw
      case rel => exact ⟨c + 1, by go_num, by omega, H4.out⟩
      case measure => simp [intOf]; omega
    · have i0 : ¬ (c : Int) < (k : Int) := by omega
      obtain ⟨w3, rfl⟩ : ∃ w3, w3 = wr := ⟨_, rfl⟩
      have h3 := HJ.out
      clear HJ
      have hlt3 := h3.lt (g, box b 3) (by simp)
      have h4 := h3.push (.cells rz 3 (0, 0))
      have hne : ∀ x ∈ [(g, box b 3)], x.1 ≠ w3.heap.size := by
        intro x hx
        rw [List.mem_singleton] at hx
        subst hx
        simp only at hlt3 ⊢
        omega
      obtain ⟨gs, hgs⟩ : ∃ gs, gs = w3.heap.size := ⟨_, rfl⟩
      obtain ⟨W, hW⟩ : ∃ W, W = w3.alloc (.cells rz 3 (0, 0)) := ⟨_, rfl⟩
      rw [← hW, ← hgs] at h4
      rw [← hgs] at hne
      have HS : Hid (_ ∧ _ ∧ _ ∧ _) := ⟨h4, hne, hgs, hW⟩
      clear h4 hne hlt3 h3 hgs hW
      go_wp2_with fail
      rw [← HS.out.2.2.1, ← HS.out.2.2.2]
      have HT : Hid (_ ∧ _) := ⟨HS.out.1, HS.out.2.1⟩
      rw [HZ.out, show (fun _ => Value.int .i64 0) = cntV (fun _ => 0) from rfl] at HT
      clear HS hmk HZ
      go_loopw [12] (fun i wr => ∃ n : Nat, i = .int .i64 (n : Int) ∧ n ≤ len0 ∧ n ≤ 300 ∧ Hid (∃ m : Nat → Nat, (∀ d, m d ≤ 32) ∧ Nb Po [(gs, .cells (rowF k (cntV m)) 3 (0, 0)), (g, box b 3)] w wr b g 3 k 20 (8 + 2 * n) (fun d => ((m d : Nat) : Int)))) (fun i _ => (300 - intOf i).toNat)
      case atStart => exact ⟨0, rfl, by omega, by omega, fun _ => 0, fun _ => Nat.zero_le _, Nb.mono HT.out.1 (by omega)⟩
      case round =>
        obtain ⟨n, rfl, hn, hn2, HJ⟩ := hrel
        have HE : Hid (_) := HT.out.2
        clear HT
        obtain ⟨m, hm, hR⟩ := HJ.out
        have HR : Hid (_ ∧ _) := ⟨hm, hR⟩
        clear HJ hR hm
        by_cases hlt : n < len0 ∧ n < 300
        · obtain ⟨hlt, hlt2⟩ := hlt
          obtain ⟨bb, off, rfl, hc0⟩ := HCE.out.1 n hlt
          have hcell := (Nb.old HR.out.2).cell hc0 (by simp)
          clear hc0
          have i1 : (0 : Int) ≤ (n : Int) := by omega
          have i2 : (n : Int) < (len0 : Int) := by omega
          have i3 : (n : Int) < 300 := by omega
          obtain ⟨z, hz⟩ : ∃ z, wordAt z0 n = z := ⟨_, rfl⟩
          rw [hz] at hcell
          clear hz
          obtain ⟨r, hr, r1, r2⟩ := pick_core z k hk1 hk8
          go_wp2_with fail
          have y1 : -11 ≤ r - 1 := by omega
          have y2 : r - 1 ≤ 9 := by omega
          clear hr
          generalize r - 1 = y at *
          clear r1 r2
          by_cases hneg : y < 0
          · have d0 : decide (y < 0) = true := by simp only [decide_eq_true_eq]; omega
            refine (n_next_bad HR.out.2 y (Or.inl hneg)).mono ?_
            rintro e w4 ⟨rfl, hw⟩
            have hw2 := hw.symm
            subst hw2
            clear hw
            have H5 : Hid (_ ∧ _) := ⟨Nb.mono HR.out.2 (show 8 + 2 * n ≤ 8 + 2 * (n + 1) by omega), HR.out.1⟩
            clear HR
            go_wp2_with (first
              | (go_at_call 9; refine (num _ _).mono ?_; rintro e w' ⟨rfl, rfl⟩))
            go_roundw
            case rel => exact ⟨n + 1, by go_num, by omega, by omega, _, H5.out.2, H5.out.1⟩
            case measure => simp [intOf]; omega
          · have d0 : decide (y < 0) = false := by simp only [decide_eq_false_iff_not]; omega
            by_cases hbig : (k : Int) ≤ y
            · have d1 : decide ((k : Int) ≤ y) = true := by simp only [decide_eq_true_eq]; omega
              refine (n_next_bad HR.out.2 y (Or.inr hbig)).mono ?_
              rintro e w4 ⟨rfl, hw⟩
              have hw2 := hw.symm
              subst hw2
              clear hw
              have H5 : Hid (_ ∧ _) := ⟨Nb.mono HR.out.2 (show 8 + 2 * n ≤ 8 + 2 * (n + 1) by omega), HR.out.1⟩
              clear HR
              go_wp2_with (first
                | (go_at_call 9; refine (num _ _).mono ?_; rintro e w' ⟨rfl, rfl⟩))
              go_roundw
              case rel => exact ⟨n + 1, by go_num, by omega, by omega, _, H5.out.2, H5.out.1⟩
              case measure => simp [intOf]; omega
            · obtain ⟨c, rfl⟩ := Int.eq_ofNat_of_zero_le (show 0 ≤ y by omega)
              have hck : c < k := by omega
              have d1 : decide ((k : Int) ≤ (c : Int)) = false := by simp only [decide_eq_false_iff_not]; omega
              have d2 : (c : Int) < (k : Int) := by omega
              have d3 : (0 : Int) ≤ (c : Int) := by omega
              clear hneg hbig y1 y2 d0
              have d0 : ¬ (c : Int) < 0 := by omega
              have d00 : decide ((c : Int) < 0) = false := by simp only [decide_eq_false_iff_not]; omega
              by_cases hful : m c < 32
              · refine (n_next (I1 := Po) (I2 := Po) HR.out.2 c hck (m c) rfl hful (po_put c false) (po_put c true) (by omega)).mono ?_
                rintro e w4 ⟨rfl, h4⟩
                rw [more_upd] at h4
                have hco := h4.cell (m := gs) (List.mem_cons_self ..) (rowF_get (cntV m) hck)
                have hfz := h4.frozen (m := gs) (List.mem_cons_self ..) c
                have h5 := h4.put HE.out (by simp) c (.int .i64 ((m c : Int) + 1))
                rw [rowF_set, cntV_more m c] at h5
                rw [show cntV m c = .int .i64 ((m c : Nat) : Int) from rfl] at hco
                have e1 : (((2 + c + 8 * m c : Nat) : Int) - 2) % 8 = (c : Int) := by omega
                have e0 : ((2 + c + 8 * m c : Nat) : Int) = 2 + (c : Int) + 8 * ((m c : Nat) : Int) := by omega
                have v2 : 2 ≤ 2 + (c : Int) + 8 * ((m c : Nat) : Int) := by omega
                have v3 : 2 + (c : Int) + 8 * ((m c : Nat) : Int) ≤ 1000 := by omega
                rw [e0] at e1 ⊢
                have H5 : Hid (_ ∧ _ ∧ _) := ⟨Nb.mono h5 (show 8 + 2 * n + 2 ≤ 8 + 2 * (n + 1) by omega), more_le HR.out.1 hful, e1⟩
                clear h4 h5 e1 e0 HR
                have f0 : ((m c : Nat) : Int) < 32 := by omega
                have f1 : ¬ 32 ≤ ((m c : Nat) : Int) := by omega
                have f2 : decide (32 ≤ ((m c : Nat) : Int)) = false := by simp only [decide_eq_false_iff_not]; omega
                clear hful
                obtain ⟨q, hq⟩ : ∃ q, ((m c : Nat) : Int) = q := ⟨_, rfl⟩
                have q0 : 0 ≤ q := by omega
                rw [hq] at hco v2 v3 f0 f1 f2 H5 ⊢
                clear hq
                obtain ⟨v, hv⟩ : ∃ v, 2 + (c : Int) + 8 * q = v := ⟨_, rfl⟩
                rw [hv] at v2 v3 H5 ⊢
                have t1 : (v != 2 + (c : Int) + 8 * q) = false := by rw [hv]; simp
                have t2 : (v != 2 + (c : Int) + 8 * q) = false := t1
                clear hv t2
                go_wp2_with (first
                  | (go_at_call 9; refine (num _ _).mono ?_; rintro e w' ⟨rfl, rfl⟩))
                refine (n_core _ _ (by omega) (by omega)).mono ?_
                rintro e w' ⟨rfl, rfl⟩
                rw [H5.out.2.2]
                go_wp2_with fail
                go_roundw
                case rel => exact ⟨n + 1, by go_num, by omega, by omega, _, H5.out.2.1, H5.out.1⟩
                case measure => simp [intOf]; omega
              · refine (n_next_full (I' := Po) HR.out.2 c hck (by have := HR.out.1 c; omega) (po_put c false) (by omega)).mono ?_
                rintro e w4 ⟨rfl, h4⟩
                have hco := h4.cell (m := gs) (List.mem_cons_self ..) (rowF_get (cntV m) hck)
                rw [show cntV m c = .int .i64 ((m c : Nat) : Int) from rfl] at hco
                have H5 : Hid (_ ∧ _) := ⟨Nb.mono h4 (show 8 + 2 * n + 1 ≤ 8 + 2 * (n + 1) by omega), HR.out.1⟩
                clear h4 HR
                have f1 : 32 ≤ ((m c : Nat) : Int) := by omega
                have f2 : decide (32 ≤ ((m c : Nat) : Int)) = true := by simp only [decide_eq_true_eq]; omega
                clear hful
                generalize ((m c : Nat) : Int) = q at hco f1 f2
                go_wp2_with (first
                  | (go_at_call 9; refine (num _ _).mono ?_; rintro e w' ⟨rfl, rfl⟩))
                go_roundw
                case rel => exact ⟨n + 1, by go_num, by omega, by omega, _, H5.out.2, H5.out.1⟩
                case measure => simp [intOf]; omega
        · have HT : Hid (_) := Nb.mono HR.out.2 (show _ ≤ 700 by omega)
          clear HR
          by_cases hx : n < len0
          · have i1 : (n : Int) < (len0 : Int) := by omega
            have i2 : ¬ (n : Int) < 300 := by omega
            go_wp2_with fail
            go_loopw [16] (fun i wr => ∃ c : Nat, i = .int .i64 (c : Int) ∧ c ≤ k ∧ Hid (Nb Po [(gs, .cells (rowF k (cntV m)) 3 (0, 0)), (g, box b 3)] w wr b g 3 k 20 700 (fun d => ((m d : Nat) : Int)))) (fun i _ => (k - intOf i).toNat)
            case atStart => exact ⟨0, rfl, by omega, HT.out⟩
            case round =>
              clear HT
              obtain ⟨c, rfl, hck, HJ⟩ := hrel
              by_cases hlc : c < k
              · have j0 : (c : Int) < (k : Int) := by omega
                go_wp2_with fail
                go_loopw [17] (fun i wr => ∃ d : Nat, i = .int .i64 (d : Int) ∧ d ≤ c ∧ Hid (Nb Po [(gs, .cells (rowF k (cntV m)) 3 (0, 0)), (g, box b 3)] w wr b g 3 k 20 700 (fun d => ((m d : Nat) : Int)))) (fun i _ => (c - intOf i).toNat)
                case atStart => exact ⟨0, rfl, by omega, HJ.out⟩
                case round =>
                  clear HJ
                  obtain ⟨d, rfl, hdc, HJ⟩ := hrel
                  by_cases hld : d < c
                  · have j1 : (d : Int) < (c : Int) := by omega
                    go_wp2_with fail
                    refine (n_trace HJ.out c (by omega) (by omega)).mono ?_
                    rintro e w5 ⟨u, t, rfl, hq, hr, hl, hk⟩
                    obtain ⟨xa, xc, rfl⟩ := hr.slice
                    have H5 : Hid (_ ∧ _ ∧ _ ∧ _) := ⟨hq, hr, hl, hk⟩
                    clear hq hr hl hk
                    go_wp2_with fail
                    refine (n_trace (Nb.still HJ.out H5.out.2.2.2) d (by omega) (by omega)).mono ?_
                    rintro e w6 ⟨u, s, rfl, hq, hr, hl, hk⟩
                    obtain ⟨ya, yc, rfl⟩ := hr.slice
                    have H6 : Hid (_ ∧ _ ∧ _ ∧ _ ∧ _) := ⟨Row.still H5.out.2.1 hk, hr, hl, H5.out.2.2.2.trans hk (by simp), po_far H5.out.1 hq hld⟩
                    clear hq hr hl hk
                    go_wp2_with fail
                    refine (both_any H6.out.1 H6.out.2.1 (by have := H5.out.2.2.1; omega) (by have := H6.out.2.2.1; omega) H6.out.2.2.2.2).mono ?_
                    rintro e w7 ⟨rfl, hk7⟩
                    have H7 : Hid (_) := Nb.still HJ.out (H6.out.2.2.2.1.trans hk7 (by simp))
                    clear hk7 H6 H5 HJ
                    go_wp2_with fail
                    go_roundw
                    case rel => exact ⟨d + 1, by go_num, by omega, H7.out⟩
                    case measure => simp [intOf]; omega
                  · have j1 : ¬ (d : Int) < (c : Int) := by omega
                    go_wp2_with fail
                    go_roundw
                    case rel => exact ⟨c + 1, by go_num, by omega, HJ.out⟩
                    case measure => simp [intOf]; omega
              · have j0 : ¬ (c : Int) < (k : Int) := by omega
                go_wp2_with fail
                refine (awake_any _).mono ?_
                rintro e w8 ⟨rfl, hk8⟩
                have H8 : Hid (_) := (Nb.old HJ.out).trans hk8 (by simp)
                clear hk8 HJ
                go_wp2_with fail
                go_ret
                exact ⟨rfl, H8.out⟩
          · have i1 : ¬ (n : Int) < (len0 : Int) := by omega
            go_wp2_with fail
            go_loopw [16] (fun i wr => ∃ c : Nat, i = .int .i64 (c : Int) ∧ c ≤ k ∧ Hid (Nb Po [(gs, .cells (rowF k (cntV m)) 3 (0, 0)), (g, box b 3)] w wr b g 3 k 20 700 (fun d => ((m d : Nat) : Int)))) (fun i _ => (k - intOf i).toNat)
            case atStart => exact ⟨0, rfl, by omega, HT.out⟩
            case round =>
              clear HT
              obtain ⟨c, rfl, hck, HJ⟩ := hrel
              by_cases hlc : c < k
              · have j0 : (c : Int) < (k : Int) := by omega
                go_wp2_with fail
                go_loopw [17] (fun i wr => ∃ d : Nat, i = .int .i64 (d : Int) ∧ d ≤ c ∧ Hid (Nb Po [(gs, .cells (rowF k (cntV m)) 3 (0, 0)), (g, box b 3)] w wr b g 3 k 20 700 (fun d => ((m d : Nat) : Int)))) (fun i _ => (c - intOf i).toNat)
                case atStart => exact ⟨0, rfl, by omega, HJ.out⟩
                case round =>
                  clear HJ
                  obtain ⟨d, rfl, hdc, HJ⟩ := hrel
                  by_cases hld : d < c
                  · have j1 : (d : Int) < (c : Int) := by omega
                    go_wp2_with fail
                    refine (n_trace HJ.out c (by omega) (by omega)).mono ?_
                    rintro e w5 ⟨u, t, rfl, hq, hr, hl, hk⟩
                    obtain ⟨xa, xc, rfl⟩ := hr.slice
                    have H5 : Hid (_ ∧ _ ∧ _ ∧ _) := ⟨hq, hr, hl, hk⟩
                    clear hq hr hl hk
                    go_wp2_with fail
                    refine (n_trace (Nb.still HJ.out H5.out.2.2.2) d (by omega) (by omega)).mono ?_
                    rintro e w6 ⟨u, s, rfl, hq, hr, hl, hk⟩
                    obtain ⟨ya, yc, rfl⟩ := hr.slice
                    have H6 : Hid (_ ∧ _ ∧ _ ∧ _ ∧ _) := ⟨Row.still H5.out.2.1 hk, hr, hl, H5.out.2.2.2.trans hk (by simp), po_far H5.out.1 hq hld⟩
                    clear hq hr hl hk
                    go_wp2_with fail
                    refine (both_any H6.out.1 H6.out.2.1 (by have := H5.out.2.2.1; omega) (by have := H6.out.2.2.1; omega) H6.out.2.2.2.2).mono ?_
                    rintro e w7 ⟨rfl, hk7⟩
                    have H7 : Hid (_) := Nb.still HJ.out (H6.out.2.2.2.1.trans hk7 (by simp))
                    clear hk7 H6 H5 HJ
                    go_wp2_with fail
                    go_roundw
                    case rel => exact ⟨d + 1, by go_num, by omega, H7.out⟩
                    case measure => simp [intOf]; omega
                  · have j1 : ¬ (d : Int) < (c : Int) := by omega
                    go_wp2_with fail
                    go_roundw
                    case rel => exact ⟨c + 1, by go_num, by omega, HJ.out⟩
                    case measure => simp [intOf]; omega
              · have j0 : ¬ (c : Int) < (k : Int) := by omega
                go_wp2_with fail
                refine (awake_any _).mono ?_
                rintro e w8 ⟨rfl, hk8⟩
                have H8 : Hid (_) := (Nb.old HJ.out).trans hk8 (by simp)
                clear hk8 HJ
                go_wp2_with fail
                go_ret
                exact ⟨rfl, H8.out⟩

theorem walk (x : Int) (a0 : Option Addr) (len0 cap0 : Nat) (z0 : List Int) (w : World) (_ : (Lit.int .i64 x).wf = true) (w0 : IsRow .i64 w a0 len0 cap0 z0) :
    Calls Try.prog 3 #[.int .i64 x, .slice a0 len0 cap0] w fun e w' => e = .returned (.bool true) ∧ Below w.heap.size w w' := by
  have hlen : len0 ≤ 9223372036854775807 := by
    rcases w0 with ⟨_, h1, _, _⟩ | ⟨x, rfl, hl, hm, hz, hcell, _⟩
    · omega
    · unfold maxLen at hm; omega
  refine (main x a0 len0 cap0 z0 (1 + x % 8).toNat w (by omega) (by omega) (by rw [i64_and7, wrap_small _ (by omega) (by omega)]; omega) hlen (fun i hi => ?_)).mono fun e w' ⟨he, hk⟩ => ⟨he, hk.below (Nat.le_refl _) (by simp)⟩
  rcases w0 with ⟨_, h1, _, _⟩ | ⟨x, rfl, hl, hm, hz, hcell, _⟩
  · omega
  · obtain ⟨bb, off, rfl, hc⟩ := ints_at hcell (by omega)
    exact ⟨bb, off, rfl, hc i (by omega)⟩

set_option maxRecDepth 100000 in
theorem lifted (os : Os) (started : os.Started) (H : Type) (enc : TypeId × Value → H) :
    ReturnsInHanded {} Try.checked os 3 .any (Rows.inumNextsSpec.pre6 enc Try.prog Try.f3 Rows.inumNextsRow.domain false) (Rows.inumNextsSpec.post enc Try.prog Try.f3 false true false false) := by
  refine returnsInHanded_of_change (C := Try.checked) own started (by kernel_rfl) Try.func3
    (ChangeSpec.witness6 (enc := enc) (C := Try.checked) false ⟨#[], #[.int .i64 0, .slice none 0 0], []⟩ 8 (by kernel_rfl) (by kernel_rfl) (by kernel_rfl) (by kernel_rfl)) ?_
  intro W base args ds gs before hval0 hW hcnd _
  have hval : ∀ (j : Nat) t v, Try.f3.params[j]? = some t → args[j]? = some v → Value.okWide Try.prog W .any base t v := hval0
  have hW' := hW
  obtain ⟨p, q, hA0, hV, rfl, hfz, hnd⟩ := hW
  have hA : DataW.TrodAll enc Try.prog W 0 (fun _ => true) true Try.f3.params.toList args.toList ds p := hA0
  rw [Try.params3] at hA hval
  obtain ⟨v0, vs0, d0, ds0, p0, q0, hargs, rfl, rfl, h0, r0⟩ := trodAll_cons hA
  obtain ⟨v1, vs1, d1, ds1, p1, q1, rfl, rfl, rfl, h1, r1⟩ := trodAll_cons r0
  obtain ⟨rfl, rfl, rfl⟩ := trodAll_nil r1
  obtain rfl : args = #[v0, v1] := by cases args; simp_all
  obtain ⟨rfl, rfl⟩ := trodVars_none hV
  obtain ⟨a0, rfl, rfl, rfl, w0⟩ := open_int Try.underlying3 (hval 0 3 v0 rfl rfl) h0
  obtain ⟨a1, len1, cap1, rfl⟩ := okWide_slice Try.underlying22 (hval 1 22 v1 rfl rfl)
  have k1 := h1
  have lt1 : ∀ x ∈ p1, x.block < W.heap.size := by obtain ⟨m, hm⟩ := k1; exact DataW.trod_lt m _ _ _ hm
  obtain ⟨z1, w1⟩ : ∃ zs, IsRow .i64 W a1 len1 cap1 zs := by
    obtain ⟨fuel, hf⟩ := h1
    rcases open_ints Try.underlying22 Try.underlying3 (by kernel_rfl) hf with ⟨hcs, _⟩ | ⟨x, l, c, zs, hcs, _, hl, hm, hz, _, hcell, hwz⟩
    · simp [Value.cells] at hcs
      obtain ⟨rfl, rfl, rfl⟩ := hcs
      exact ⟨[], .inl ⟨rfl, rfl, rfl, rfl⟩⟩
    · simp [Value.cells] at hcs
      obtain ⟨rfl, rfl, rfl⟩ := hcs
      exact ⟨zs, .inr ⟨_, rfl, hl, hm, by simpa using hz, hcell, hwz⟩⟩
  clear hA0 hval0
  refine (walk a0 a1 len1 cap1 z1 W w0 w1).mono fun e W' ⟨he, bel⟩ => ?_
  subst he
  exact ⟨_, rfl, _, _, _, [], _, [], hW', trodAll_mk1 (shut_bool Try.underlying4 _), (trodAll_cons_mk (shut_int Try.underlying3 w0) (trodAll_cons_mk (Below.trod laidOut (by kernel_rfl) (of_decide_eq_true (by kernel_rfl)) k1 bel lt1) trodAll_mk0)), rfl, bel.frame _, fun h => by cases h⟩

theorem over : Rows.inumNextsRow.holds Try.pinned (OpenSpec.ofChange Rows.inumNextsSpec) :=
  OpenClaim.holds_of_wide 3 Try.f3 rfl rfl rfl rfl rfl rfl rfl ⟨rfl, rfl, rfl, rfl, rfl⟩ rfl rfl rfl rfl rfl (by kernel_rfl) Try.func3 (by kernel_rfl)
    (of_decide_eq_true (by kernel_rfl)) (by unfold Func.isWrapper; first | (rw [if_pos (by decide +kernel)]; kernel_rfl) | (rw [if_neg (by decide +kernel)]; exact ⟨rfl, rfl⟩))
    (fun os started H enc _ => lifted os started H enc)

end Go.Proofs.Ytdhmhghffmpipaa.inumNexts

namespace Go.Proofs.Ytdhmhghffmpipaa
theorem inumNexts_holds : Rows.InumNextsSaid := inumNexts.over
#print axioms inumNexts_holds
end Go.Proofs.Ytdhmhghffmpipaa
