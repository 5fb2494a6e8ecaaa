/-
  FdsActs returns true for every int and every slice of acts: descriptors under any calls are as a plain row of numbers for each core, and calls of unlike cores touch unlike words.
-/
import Derived.Test.YtolbjmckebicfaaRows
import Derived.Test.YtolbjmckebicfaaFs
import Derived.Test.YtolbjmckebicfaaBits
import Derived.WalkKit
import Derived.ProofKit
import Derived.OpenShut
import Derived.ShutString
import Derived.ChangeOld
import Derived.Below
import Derived.Deep.Slices
import Derived.Deep.CutRange
import Derived.Deep.CutBlock
import Derived.BigQuiet
import Derived.SizedLaws
namespace Go.Proofs.Ytolbjmckebicfaa.fdsActs
open Go.ChangeShapes Go.WideShapes Go.ChangeAt Go.RowKit
open Go.ChangeMaps (open_string shut_string)
set_option linter.unusedVariables false

theorem own : ownKnob Try.prog.godebug = none := by kernel_rfl
theorem laidOut : laidOutB Try.prog = true := by kernel_rfl

/-- An act as it lies. -/
def ActAt (w : World) (B off i : Nat) (k c t : Int) : Prop := w.cell? ⟨B, off + i * 3, none⟩ = some (.int .i64 k) ∧ w.cell? ⟨B, off + i * 3 + 1, none⟩ = some (.int .i64 c) ∧ w.cell? ⟨B, off + i * 3 + 2, none⟩ = some (.int .i64 t)

theorem ActAt.kept {w w' : World} {B off i : Nat} {k c t : Int} (h : ActAt w B off i k c t) (hk : Kept [] w w') : ActAt w' B off i k c t :=
  ⟨hk.cell h.1 (by simp), hk.cell h.2.1 (by simp), hk.cell h.2.2 (by simp)⟩

/-- The acts as they lie. -/
def IsActs (w : World) (a : Option Addr) (len : Nat) : Prop :=
  len = 0 ∨ ∃ B off, ∃ K C T : Nat → Int, a = some ⟨B, off, none⟩ ∧ len ≤ 9223372036854775807 ∧ ∀ i, i < len → ActAt w B off i (K i) (C i) (T i)

theorem acts_at {H : Type} {enc : TypeId × Value → H} {w : World} {base : Nat} {spare : Nat → Bool} {held : Bool} {fuel : Nat} {a : Option Addr} {len cap : Nat} {x : DataW H × List MemPlace}
    (h : DataW.trod enc Try.prog w base spare held fuel 22 [.slice a len cap] = some x) : IsActs w a len := by
  rcases Deep.open_slice Try.underlying22 h with ⟨hcs, _⟩ | ⟨a', len', cap', m, n, D, Pl, hcs, hb, hl, hm, hmm, _, hx⟩
  · simp at hcs
    exact Or.inl hcs.2.1
  · simp at hcs
    obtain ⟨rfl, rfl, rfl⟩ := hcs
    by_cases h0 : len = 0
    · exact Or.inl h0
    have hlm : len ≤ m := by rw [hmm]; split <;> omega
    have ce : Try.prog.cellsOf 35 = 3 := by kernel_rfl
    rw [ce] at hx
    have each : ∀ i, i < len → ∃ q : Int × Int × Int, w.cell? (a'.add (i * 3)) = some (.int .i64 q.1) ∧ w.cell? (a'.add (i * 3 + 1)) = some (.int .i64 q.2.1) ∧ w.cell? (a'.add (i * 3 + 2)) = some (.int .i64 q.2.2) := by
      intro i hi
      obtain ⟨cs', h1, h2⟩ := hx i (by omega)
      obtain ⟨_, hlen, hcell⟩ := World.cells?_some h1
      obtain ⟨xs, k, hk, hxy, _, hxl, hf⟩ := DataW.trod_struct Try.underlying35 h2
      match xs, hxl, cs', hlen with
      | [y0, y1, y2], _, [v0, v1, v2], _ =>
        have g0 := hf 0 _ rfl
        have g1 := hf 1 _ rfl
        have g2 := hf 2 _ rfl
        simp [show Try.prog.cellsOf 3 = 1 from by kernel_rfl] at g0 g1 g2
        have e0 := hcell 0 (by omega)
        have e1 := hcell 1 (by omega)
        have e2 := hcell 2 (by omega)
        rw [Deep.add_add] at e0 e1 e2
        obtain ⟨z0, q0, -, -⟩ := DataW.trod_int Try.underlying3 g0
        obtain ⟨z1, q1, -, -⟩ := DataW.trod_int Try.underlying3 g1
        obtain ⟨z2, q2, -, -⟩ := DataW.trod_int Try.underlying3 g2
        simp at q0 q1 q2 e0 e1 e2
        subst q0 q1 q2
        exact ⟨(z0, z1, z2), e0, e1, e2⟩
    obtain ⟨q, hq⟩ := Deep.choose_lt (α := Int × Int × Int) each
    obtain ⟨B, off, spot⟩ := a'
    have hspot : spot = none := by simpa [Addr.add] using World.cell?_spot (hq 0 (by omega)).1
    subst hspot
    refine Or.inr ⟨B, off, fun i => (q i).1, fun i => (q i).2.1, fun i => (q i).2.2, rfl, by unfold maxLen at hm; omega, fun i hi => ?_⟩
    have := hq i hi
    simp only [add_plain] at this
    exact ⟨this.1, this.2.1, this.2.2⟩


set_option maxRecDepth 100000 in
set_option maxHeartbeats 16000000 in
theorem main (x : Int) (a0 : Option Addr) (len0 cap0 : Nat) (k : Nat) (w : World) (hk1 : 1 ≤ k) (hk4 : k ≤ 4) (hx : wrap64 (1 + bits .and .i64 x 3) = (k : Int)) (ha : IsActs w a0 len0) :
    Calls Try.prog 3 #[.int .i64 x, .slice a0 len0 cap0] w fun e w' => e = .returned (.bool true) ∧ Kept [] w w' := by
  have HA : Hid (IsActs w a0 len0) := ha
  have HX0 : Hid (_) := hx
  clear hx ha
  have hmk := make_rows k (by omega)
  obtain ⟨rz, hrz⟩ : ∃ rz, rz = rowF k (fun _ => Value.slice none 0 0) := ⟨_, rfl⟩
  rw [← hrz] at hmk
  have hm4 := make_words 4 (by omega)
  rw [rowF_zeros] at hm4
  obtain ⟨r4, hr4⟩ : ∃ r4, r4 = rowF 4 (fun _ => Value.int .i64 0) := ⟨_, rfl⟩
  rw [← hr4] at hm4
  have HZ : Hid (_ ∧ _) := ⟨hrz, hr4⟩
  clear hrz hr4
  go_enter Try.func3, Try.ntmps3
  go_wp2_with fail
  rw [HX0.out]
  refine (new_as w _ _ (5 + 4 * k) k (by first | (rw [wrap_small ((k : Int) * 4) (by omega) (by omega), wrap_small _ (by omega) (by omega)]; omega) | (rw [wrap_small _ (by omega) (by omega)]; omega) | omega) rfl (by omega) (by omega) hk1 (by omega)).mono ?_
  rintro e w2 ⟨b, rfl, hm⟩
  have H1 : Hid (_) := hm
  clear hm
  go_wp2_with fail
  refine (f_new (I := Po 5) (k := k) (L := 5 + 4 * k) H1.out 5 _ rfl (by omega) (fun t c d bw _ hd => po_put 5 t c d bw hd) (fun c x hx => by simp at hx)).mono ?_
  rintro e w3 ⟨g, rfl, h3⟩
  have H3 : Hid (_) := h3
  clear h3 H1
  go_wp2_with (first
    | (go_at_call 8; refine (num _ _).mono ?_; rintro e w' ⟨rfl, rfl⟩))
  try rw [HX0.out]
  go_loopw [10] (fun i wr => ∃ c : Nat, i = .int .i64 (c : Int) ∧ c ≤ k ∧ Hid (Fb (Po 5) [(g, box b 5)] w wr b g 5 k (5 + 4 * k) (0 + 4 * k) (fun _ _ => 0))) (fun i _ => (k - intOf i).toNat)
  case atStart => exact ⟨0, rfl, by omega, H3.out⟩
  case round =>
    clear H3
    obtain ⟨c, rfl, hck, HJ⟩ := hrel
    by_cases hlc : c < k
    · have i0 : (c : Int) < (k : Int) := by omega
      go_wp2_with fail
      refine (n_clear HJ.out c hlc (po_clear 5 c)).mono ?_
      rintro e w4 ⟨rfl, h4⟩
      have H4 : Hid (_) := h4
      clear h4 HJ
      go_wp2_with fail
      go_roundw
      case rel => exact ⟨c + 1, by go_num, by omega, H4.out⟩
      case measure => simp [intOf]; omega
    · have i0 : ¬ (c : Int) < (k : Int) := by omega
      have h4 := Mk.start HJ.out (fun _ => 0)
      rw [← HZ.out.1] at h4
      obtain ⟨hb, hhb⟩ : ∃ hb, hb = wr.heap.size := ⟨_, rfl⟩
      obtain ⟨W3, hW3⟩ : ∃ W3, W3 = wr.alloc (.cells rz 33 (0, 0)) := ⟨_, rfl⟩
      rw [← hhb, ← hW3] at h4
      have HS : Hid (_ ∧ _ ∧ _) := ⟨h4.fb.mono (N' := 16) (by omega), hhb, hW3⟩
      have HD0 : Hid (_ ∧ _) := ⟨h4.dj, h4.ne⟩
      clear h4 hhb hW3 HJ
      go_wp2_with fail
      rw [← HS.out.2.1, ← HS.out.2.2]
      have HT : Hid (Mk (Po 5) w W3 b g hb 5 k (5 + 4 * k) 16 0 (fun _ => 0) fun _ _ => 0) := ⟨HS.out.1, HD0.out.1, HD0.out.2⟩
      clear HS HD0 hmk
      go_loopw [12] (fun i wr => ∃ c : Nat, i = .int .i64 (c : Int) ∧ c ≤ k ∧ Hid (∃ r, Mk (Po 5) w wr b g hb 5 k (5 + 4 * k) 16 c r fun _ _ => 0)) (fun i _ => (k - intOf i).toNat)
      case atStart => exact ⟨0, rfl, by omega, _, HT.out⟩
      case round =>
        clear HT
        obtain ⟨c, rfl, hck, HJ⟩ := hrel
        by_cases hlc : c < k
        · have i0 : (0 : Int) ≤ (c : Int) := by omega
          have i1 : (c : Int) < (k : Int) := by omega
          obtain ⟨r, hM⟩ := HJ.out
          have hN := hM.next hlc
          rw [← HZ.out.2] at hN
          have hka : Kept [] wr (wr.alloc (.cells r4 3 (0, 0))) := (Kept.refl [] wr).alloc _
          have hmem : (hb, hob k r c) ∈ rowsOf c r (fun _ _ => 0) ++ [(hb, hob k r c), (g, box b 5)] := by simp
          have q0 := hka.cell (hM.cell hlc).1 (by simp)
          have q1 : (wr.alloc (.cells r4 3 (0, 0))).frozen? ⟨hb, c, none⟩ = false := (hM.fb.still hka).frozen (m := hb) (cs := rowF k (hv r c)) (t := 33) hmem c
          have HN : Hid (_) := hN
          obtain ⟨W4, hW4⟩ : ∃ W4, W4 = wr.alloc (.cells r4 3 (0, 0)) := ⟨_, rfl⟩
          rw [← hW4] at q0 q1 HN
          have HW4 : Hid (_) := hW4
          clear hN hM HJ hmem hka hW4
          have hm5 : ∀ V : World, (Instr.makeSlice 33 (.int .i64 4) (.int .i64 4)).run Try.prog V = .ok (.slice (some ⟨V.heap.size, 0, none⟩) 4 4) (V.alloc (.cells r4 3)) := hm4
          have hm6 : (Instr.makeSlice 33 (.int .i64 4) (.int .i64 4)).run Try.prog wr = .ok (.slice (some ⟨wr.heap.size, 0, none⟩) 4 4) W4 := by rw [hm5, HW4.out]
          clear hm5
          go_wp2_with fail
          go_roundw
          case rel => exact ⟨c + 1, by go_num, by omega, _, HN.out⟩
          case measure => simp [intOf]; omega
        · have i0 : ¬ (c : Int) < (k : Int) := by omega
          have e : c = k := by omega
          obtain ⟨r, hM⟩ := HJ.out
          rw [e] at hM
          have HM : Hid (_) := hM
          clear hM HJ hm4 HZ e
          go_wp2_with fail
          go_loopw [13] (fun i wr => ∃ (n : Nat) (W : Nat → Nat → Int), i = .int .i64 (n : Int) ∧ n ≤ len0 ∧ n ≤ 200 ∧ Hid (Mk (Po 5) w wr b g hb 5 k (5 + 4 * k) (16 + 13 * n) k r W)) (fun i _ => (200 - intOf i).toNat)
          case atStart => exact ⟨0, _, rfl, by omega, by omega, HM.out⟩
          case round =>
            clear HM
            obtain ⟨n, W, rfl, hn, hn2, HJ⟩ := hrel
            by_cases hlt : n < len0 ∧ n < 200
            · obtain ⟨hlt, hlt2⟩ := hlt
              have i1 : (0 : Int) ≤ (n : Int) := by omega
              have i2 : (n : Int) < (len0 : Int) := by omega
              have i3 : (n : Int) < 200 := by omega
              rcases HA.out with h0 | ⟨B, off, K, C, T, rfl, hl, hc⟩
              · omega
              clear HA
              obtain ⟨x0, x1, x2⟩ := (hc n hlt).kept HJ.out.fb.old
              clear hc
              generalize K n = kd at x0
              generalize C n = cc at x1
              generalize T n = xx at x2
              obtain ⟨hp, hdj⟩ := HJ.out.fb.rpush (by simp) HJ.out.dj (xob kd cc xx)
              have HX : Hid (_) := hp
              have HD : Hid (_ ∧ _) := ⟨HJ.out.dj, HJ.out.ne⟩
              have HE : Hid (_) := hdj
              obtain ⟨X, hX⟩ : ∃ X, wr.heap.size = X := ⟨_, rfl⟩
              rw [hX] at HX HE
              have HXX : Hid (_) := hX
              obtain ⟨W0, h0⟩ : ∃ W0, W0 = wr.alloc (xob kd cc xx) := ⟨_, rfl⟩
              rw [← h0] at HX
              have hW0 : Hid (wr.alloc (.cells #[.int .i64 kd, .int .i64 cc, .int .i64 xx] 35 (0, 0)) = W0) := h0.symm
              clear h0 hX hp hdj HJ
              go_upto_region 19 with fail
              rw [hW0.out, HXX.out]
              clear hW0 HXX x0 x1 x2
              by_cases hneg : cc < 0
              · have d0 : decide (cc < 0) = true := by simp only [decide_eq_true_eq]; omega
                obtain ⟨y0, y1, y2⟩ := xob_cells (HX.out.at_ (x := (X, xob kd cc xx)) (by simp))
                as_aux_lemma =>
                  go_wp2_with fail
                  refine (d_open_bad HX.out cc 1 (by omega)).mono ?_
                  rintro e w4 ⟨rfl, hw⟩
                  have hw2 := hw.symm
                  subst hw2
                  clear hw
                  go_wp2_with fail
                  refine (d_close_bad HX.out cc 0 (by omega)).mono ?_
                  rintro e w4 ⟨rfl, hw⟩
                  have hw2 := hw.symm
                  subst hw2
                  clear hw
                  go_wp2_with (first
                    | (go_at_call 8; refine (num _ _).mono ?_; rintro e w' ⟨rfl, rfl⟩))
                  refine (d_list_bad HX.out cc (by omega)).mono ?_
                  rintro e w4 ⟨rfl, hw⟩
                  have hw2 := hw.symm
                  subst hw2
                  clear hw
                  have H5 : Hid (Mk (Po 5) w _ b g hb 5 k (5 + 4 * k) (16 + 13 * (n + 1)) k r W) := ⟨(HX.out.rdrop (by simp)).mono (by omega), HD.out.1, HD.out.2⟩
                  clear HX
                  go_wp2_with fail
                  go_roundw
                  case rel => exact ⟨n + 1, _, by go_num, by omega, by omega, H5.out⟩
                  case measure => simp [intOf]; omega
              · have d0 : decide (cc < 0) = false := by simp only [decide_eq_false_iff_not]; omega
                by_cases hbig : (k : Int) ≤ cc
                · have d1 : decide ((k : Int) ≤ cc) = true := by simp only [decide_eq_true_eq]; omega
                  obtain ⟨y0, y1, y2⟩ := xob_cells (HX.out.at_ (x := (X, xob kd cc xx)) (by simp))
                  as_aux_lemma =>
                    go_wp2_with fail
                    refine (d_open_bad HX.out cc 1 (by omega)).mono ?_
                    rintro e w4 ⟨rfl, hw⟩
                    have hw2 := hw.symm
                    subst hw2
                    clear hw
                    go_wp2_with fail
                    refine (d_close_bad HX.out cc 0 (by omega)).mono ?_
                    rintro e w4 ⟨rfl, hw⟩
                    have hw2 := hw.symm
                    subst hw2
                    clear hw
                    go_wp2_with (first
                      | (go_at_call 8; refine (num _ _).mono ?_; rintro e w' ⟨rfl, rfl⟩))
                    refine (d_list_bad HX.out cc (by omega)).mono ?_
                    rintro e w4 ⟨rfl, hw⟩
                    have hw2 := hw.symm
                    subst hw2
                    clear hw
                    have H5 : Hid (Mk (Po 5) w _ b g hb 5 k (5 + 4 * k) (16 + 13 * (n + 1)) k r W) := ⟨(HX.out.rdrop (by simp)).mono (by omega), HD.out.1, HD.out.2⟩
                    clear HX
                    go_wp2_with fail
                    go_roundw
                    case rel => exact ⟨n + 1, _, by go_num, by omega, by omega, H5.out⟩
                    case measure => simp [intOf]; omega
                · as_aux_lemma =>
                    obtain ⟨c, rfl⟩ := Int.eq_ofNat_of_zero_le (show 0 ≤ cc by omega)
                    have hck2 : c < k := by omega
                    have d1 : decide ((k : Int) ≤ (c : Int)) = false := by simp only [decide_eq_false_iff_not]; omega
                    have d2 : (c : Int) < (k : Int) := by omega
                    have d3 : (0 : Int) ≤ (c : Int) := by omega
                    obtain ⟨y0, y1, y2, y3⟩ := HX.out.reads hck2
                    go_wp2_with fail
                    have HB : Hid (_) := HX.out.still (Kept.refl [] W0).drew
                    have HC : Hid (_) := HB.out.reads hck2
                    clear HX y0 y1 y2 y3
                    go_region_held3 (fun w' => w'.cell? ⟨X, 0, none⟩ = some (.int .i64 kd) ∧ w'.cell? ⟨X, 1, none⟩ = some (.int .i64 (c : Int)) ∧ w'.cell? ⟨X, 2, none⟩ = some (.int .i64 xx) ∧ w'.cell? ⟨hb, c, none⟩ = some (.slice (some ⟨r c, 0, none⟩) 4 4)) (first | exact HC.out | exact z5 | exact z4 | go_keep)
                      (first
                        | (go_at_call 13; refine (l_one HB.out (by simp) HE.out c hck2 kd xx (by omega)).mono ?_; rintro e w4 ⟨rfl, W', h4⟩; have z4 := h4.reads hck2)
                        | (go_at_call 14; refine (l_listed h4 (r c) c (List.mem_append_left _ (mem_rows hck2)) hck2 (by omega)).mono ?_; rintro e w5 ⟨rfl, h5⟩; have z5 := h5.reads hck2))
                    have H5 : Hid (Mk (Po 5) w w5 b g hb 5 k (5 + 4 * k) (16 + 13 * (n + 1)) k r W') := ⟨(h5.rdrop (by simp)).mono (by omega), HD.out.1, HD.out.2⟩
                    clear z4 z5 h4 h5 HB HC HD HE
                    go_wp2_with fail
                    go_roundw
                    case rel => exact ⟨n + 1, _, by go_num, by omega, by omega, H5.out⟩
                    case measure => simp [intOf]; omega
            · have HT : Hid (Mk (Po 5) w wr b g hb 5 k (5 + 4 * k) 3000 k r W) := ⟨HJ.out.fb.mono (by omega), HJ.out.dj, HJ.out.ne⟩
              clear HJ HA
              by_cases hx : n < len0
              · as_aux_lemma =>
                  have i1 : (n : Int) < (len0 : Int) := by omega
                  have i2 : ¬ (n : Int) < 200 := by omega
                  go_wp2_with fail
                  go_loopw [18] (fun i wr => ∃ c : Nat, i = .int .i64 (c : Int) ∧ c ≤ k ∧ Hid (Mk (Po 5) w wr b g hb 5 k (5 + 4 * k) 3000 k r W)) (fun i _ => (k - intOf i).toNat)
                  case atStart => exact ⟨0, rfl, by omega, HT.out⟩
                  case round =>
                    clear HT
                    obtain ⟨c, rfl, hck, HJ⟩ := hrel
                    by_cases hlc : c < k
                    · have j0 : (c : Int) < (k : Int) := by omega
                      go_wp2_with fail
                      go_loopw [19] (fun i wr => ∃ d : Nat, i = .int .i64 (d : Int) ∧ d ≤ c ∧ Hid (Mk (Po 5) w wr b g hb 5 k (5 + 4 * k) 3000 k r W)) (fun i _ => (c - intOf i).toNat)
                      case atStart => exact ⟨0, rfl, by omega, HJ.out⟩
                      case round =>
                        clear HJ
                        obtain ⟨d, rfl, hdc, HJ⟩ := hrel
                        by_cases hld : d < c
                        · have j1 : (d : Int) < (c : Int) := by omega
                          go_wp2_with fail
                          refine (n_trace HJ.out.fb c (by omega) (by omega)).mono ?_
                          rintro e w5 ⟨u, t, rfl, hq, hr, hl, hk⟩
                          have H5 : Hid (_ ∧ _ ∧ _ ∧ _) := ⟨hq, hr, hl, hk⟩
                          clear hq hr hl hk
                          obtain ⟨xa, xc, hxs⟩ := H5.out.2.1.slice
                          subst hxs
                          go_wp2_with fail
                          refine (wordsOf_any H5.out.2.1 (by have := H5.out.2.2.1; omega)).mono ?_
                          rintro e w6 ⟨o1, xs, rfl, h1, h2, h3, h4⟩
                          have h3' : xs.length ≤ 3000 := Nat.le_trans h3 H5.out.2.2.1
                          have H6 : Hid (_ ∧ _ ∧ _ ∧ _) := ⟨H5.out.1, h1, h2, H5.out.2.2.2.trans h4 (by simp)⟩
                          clear h1 h2 h3 h4 H5
                          go_wp2_with fail
                          refine (n_trace (HJ.out.fb.still H6.out.2.2.2) d (by omega) (by omega)).mono ?_
                          rintro e w7 ⟨u, s, rfl, hq, hr, hl, hk⟩
                          have H7 : Hid (_ ∧ _ ∧ _ ∧ _) := ⟨hq, hr, hl, hk⟩
                          clear hq hr hl hk
                          obtain ⟨ya, yc, hys⟩ := H7.out.2.1.slice
                          subst hys
                          go_wp2_with fail
                          refine (wordsOf_any H7.out.2.1 (by have := H7.out.2.2.1; omega)).mono ?_
                          rintro e w8 ⟨o2, ys, rfl, k1, k2, k3, k4⟩
                          have k3' : ys.length ≤ 3000 := Nat.le_trans k3 H7.out.2.2.1
                          have hk78 : Kept [] w6 w8 := H7.out.2.2.2.trans k4 (by simp)
                          have hx2 : Own w8 w5.heap.size o1 xs := H6.out.2.1.kept hk78
                          obtain ⟨a1, cap1, hv1, r1⟩ := hx2.read
                          obtain ⟨a2, cap2, hv2, r2⟩ := k1.read
                          have hne := po_far H6.out.1 H7.out.1 hld H6.out.2.2.1 k2
                          have H8 : Hid (_ ∧ _ ∧ _ ∧ _) := ⟨r1, r2, hne, H6.out.2.2.2.trans hk78 (by simp)⟩
                          clear hx2 k1 k2 k3 k4 r1 r2 hne H6 H7 hk78
                          subst hv1
                          subst hv2
                          go_wp2_with fail
                          go_loopw [22] (fun i w9 => ∃ p : Nat, p ≤ xs.length ∧ i = .int .i64 (p : Int) ∧ Hid (Kept [] w8 w9)) (fun i _ => (xs.length - intOf i).toNat)
                          case atStart => exact ⟨0, by omega, rfl, Kept.refl _ _⟩
                          case round =>
                            obtain ⟨p, hpp, rfl, HK⟩ := hrel
                            by_cases hlp : p < xs.length
                            · have l0 : (0 : Int) ≤ (p : Int) := by omega
                              have l1 : (p : Int) < (xs.length : Int) := by omega
                              go_wp2_with fail
                              go_loopw [23] (fun i w9 => ∃ q : Nat, q ≤ ys.length ∧ i = .int .i64 (q : Int) ∧ Hid (Kept [] w8 w9)) (fun i _ => (ys.length - intOf i).toNat)
                              case atStart => exact ⟨0, by omega, rfl, HK.out⟩
                              case round =>
                                obtain ⟨q, hqq, rfl, HK2⟩ := hrel
                                by_cases hlq : q < ys.length
                                · have m0 : (0 : Int) ≤ (q : Int) := by omega
                                  have m1 : (q : Int) < (ys.length : Int) := by omega
                                  obtain ⟨g1, e1, c1⟩ := H8.out.1 p hlp
                                  obtain ⟨g2, e2, c2⟩ := H8.out.2.1 q hlq
                                  subst e1
                                  subst e2
                                  have hne := H8.out.2.2.1 _ (wordAt_mem xs p hlp) _ (wordAt_mem ys q hlq)
                                  have x0 := HK2.out.cell c1 (by simp)
                                  have y0 := HK2.out.cell c2 (by simp)
                                  generalize wordAt xs p = z at *
                                  generalize wordAt ys q = y at *
                                  have hb : (z == y) = false := by simpa using hne
                                  clear c1 c2 hne
                                  go_wp2_with fail
                                  go_quiet (fail)
                                  go_wp2
                                  go_roundw
                                  case rel => exact ⟨q + 1, by omega, by go_num, HK2.out.drewN _⟩
                                  case measure => simp [intOf]; omega
                                · have m1 : ¬ (q : Int) < (ys.length : Int) := by omega
                                  go_wp2_with fail
                                  go_roundw
                                  case rel => exact ⟨p + 1, by omega, by go_num, HK2.out⟩
                                  case measure => simp [intOf]; omega
                            · have l1 : ¬ (p : Int) < (xs.length : Int) := by omega
                              have H9 : Hid (Mk (Po 5) w wr b g hb 5 k (5 + 4 * k) 3000 k r W) := ⟨HJ.out.fb.still (H8.out.2.2.2.trans HK.out (by simp)), HJ.out.dj, HJ.out.ne⟩
                              clear HJ H8 HK
                              go_wp2_with fail
                              go_roundw
                              case rel => exact ⟨d + 1, by go_num, by omega, H9.out⟩
                              case measure => simp [intOf]; omega
                        · have j1 : ¬ (d : Int) < (c : Int) := by omega
                          go_wp2_with fail
                          go_roundw
                          case rel => exact ⟨c + 1, by go_num, by omega, HJ.out⟩
                          case measure => simp [intOf]; omega
                    · have j0 : ¬ (c : Int) < (k : Int) := by omega
                      go_wp2_with fail
                      refine (awake_any _).mono ?_
                      rintro e w8 ⟨rfl, hk8⟩
                      have H8 : Hid (_) := HJ.out.fb.old.trans hk8 (by simp)
                      clear hk8 HJ
                      go_wp2_with fail
                      go_ret
                      exact ⟨rfl, H8.out⟩
              · as_aux_lemma =>
                  have i1 : ¬ (n : Int) < (len0 : Int) := by omega
                  go_wp2_with fail
                  go_loopw [18] (fun i wr => ∃ c : Nat, i = .int .i64 (c : Int) ∧ c ≤ k ∧ Hid (Mk (Po 5) w wr b g hb 5 k (5 + 4 * k) 3000 k r W)) (fun i _ => (k - intOf i).toNat)
                  case atStart => exact ⟨0, rfl, by omega, HT.out⟩
                  case round =>
                    clear HT
                    obtain ⟨c, rfl, hck, HJ⟩ := hrel
                    by_cases hlc : c < k
                    · have j0 : (c : Int) < (k : Int) := by omega
                      go_wp2_with fail
                      go_loopw [19] (fun i wr => ∃ d : Nat, i = .int .i64 (d : Int) ∧ d ≤ c ∧ Hid (Mk (Po 5) w wr b g hb 5 k (5 + 4 * k) 3000 k r W)) (fun i _ => (c - intOf i).toNat)
                      case atStart => exact ⟨0, rfl, by omega, HJ.out⟩
                      case round =>
                        clear HJ
                        obtain ⟨d, rfl, hdc, HJ⟩ := hrel
                        by_cases hld : d < c
                        · have j1 : (d : Int) < (c : Int) := by omega
                          go_wp2_with fail
                          refine (n_trace HJ.out.fb c (by omega) (by omega)).mono ?_
                          rintro e w5 ⟨u, t, rfl, hq, hr, hl, hk⟩
                          have H5 : Hid (_ ∧ _ ∧ _ ∧ _) := ⟨hq, hr, hl, hk⟩
                          clear hq hr hl hk
                          obtain ⟨xa, xc, hxs⟩ := H5.out.2.1.slice
                          subst hxs
                          go_wp2_with fail
                          refine (wordsOf_any H5.out.2.1 (by have := H5.out.2.2.1; omega)).mono ?_
                          rintro e w6 ⟨o1, xs, rfl, h1, h2, h3, h4⟩
                          have h3' : xs.length ≤ 3000 := Nat.le_trans h3 H5.out.2.2.1
                          have H6 : Hid (_ ∧ _ ∧ _ ∧ _) := ⟨H5.out.1, h1, h2, H5.out.2.2.2.trans h4 (by simp)⟩
                          clear h1 h2 h3 h4 H5
                          go_wp2_with fail
                          refine (n_trace (HJ.out.fb.still H6.out.2.2.2) d (by omega) (by omega)).mono ?_
                          rintro e w7 ⟨u, s, rfl, hq, hr, hl, hk⟩
                          have H7 : Hid (_ ∧ _ ∧ _ ∧ _) := ⟨hq, hr, hl, hk⟩
                          clear hq hr hl hk
                          obtain ⟨ya, yc, hys⟩ := H7.out.2.1.slice
                          subst hys
                          go_wp2_with fail
                          refine (wordsOf_any H7.out.2.1 (by have := H7.out.2.2.1; omega)).mono ?_
                          rintro e w8 ⟨o2, ys, rfl, k1, k2, k3, k4⟩
                          have k3' : ys.length ≤ 3000 := Nat.le_trans k3 H7.out.2.2.1
                          have hk78 : Kept [] w6 w8 := H7.out.2.2.2.trans k4 (by simp)
                          have hx2 : Own w8 w5.heap.size o1 xs := H6.out.2.1.kept hk78
                          obtain ⟨a1, cap1, hv1, r1⟩ := hx2.read
                          obtain ⟨a2, cap2, hv2, r2⟩ := k1.read
                          have hne := po_far H6.out.1 H7.out.1 hld H6.out.2.2.1 k2
                          have H8 : Hid (_ ∧ _ ∧ _ ∧ _) := ⟨r1, r2, hne, H6.out.2.2.2.trans hk78 (by simp)⟩
                          clear hx2 k1 k2 k3 k4 r1 r2 hne H6 H7 hk78
                          subst hv1
                          subst hv2
                          go_wp2_with fail
                          go_loopw [22] (fun i w9 => ∃ p : Nat, p ≤ xs.length ∧ i = .int .i64 (p : Int) ∧ Hid (Kept [] w8 w9)) (fun i _ => (xs.length - intOf i).toNat)
                          case atStart => exact ⟨0, by omega, rfl, Kept.refl _ _⟩
                          case round =>
                            obtain ⟨p, hpp, rfl, HK⟩ := hrel
                            by_cases hlp : p < xs.length
                            · have l0 : (0 : Int) ≤ (p : Int) := by omega
                              have l1 : (p : Int) < (xs.length : Int) := by omega
                              go_wp2_with fail
                              go_loopw [23] (fun i w9 => ∃ q : Nat, q ≤ ys.length ∧ i = .int .i64 (q : Int) ∧ Hid (Kept [] w8 w9)) (fun i _ => (ys.length - intOf i).toNat)
                              case atStart => exact ⟨0, by omega, rfl, HK.out⟩
                              case round =>
                                obtain ⟨q, hqq, rfl, HK2⟩ := hrel
                                by_cases hlq : q < ys.length
                                · have m0 : (0 : Int) ≤ (q : Int) := by omega
                                  have m1 : (q : Int) < (ys.length : Int) := by omega
                                  obtain ⟨g1, e1, c1⟩ := H8.out.1 p hlp
                                  obtain ⟨g2, e2, c2⟩ := H8.out.2.1 q hlq
                                  subst e1
                                  subst e2
                                  have hne := H8.out.2.2.1 _ (wordAt_mem xs p hlp) _ (wordAt_mem ys q hlq)
                                  have x0 := HK2.out.cell c1 (by simp)
                                  have y0 := HK2.out.cell c2 (by simp)
                                  generalize wordAt xs p = z at *
                                  generalize wordAt ys q = y at *
                                  have hb : (z == y) = false := by simpa using hne
                                  clear c1 c2 hne
                                  go_wp2_with fail
                                  go_quiet (fail)
                                  go_wp2
                                  go_roundw
                                  case rel => exact ⟨q + 1, by omega, by go_num, HK2.out.drewN _⟩
                                  case measure => simp [intOf]; omega
                                · have m1 : ¬ (q : Int) < (ys.length : Int) := by omega
                                  go_wp2_with fail
                                  go_roundw
                                  case rel => exact ⟨p + 1, by omega, by go_num, HK2.out⟩
                                  case measure => simp [intOf]; omega
                            · have l1 : ¬ (p : Int) < (xs.length : Int) := by omega
                              have H9 : Hid (Mk (Po 5) w wr b g hb 5 k (5 + 4 * k) 3000 k r W) := ⟨HJ.out.fb.still (H8.out.2.2.2.trans HK.out (by simp)), HJ.out.dj, HJ.out.ne⟩
                              clear HJ H8 HK
                              go_wp2_with fail
                              go_roundw
                              case rel => exact ⟨d + 1, by go_num, by omega, H9.out⟩
                              case measure => simp [intOf]; omega
                        · have j1 : ¬ (d : Int) < (c : Int) := by omega
                          go_wp2_with fail
                          go_roundw
                          case rel => exact ⟨c + 1, by go_num, by omega, HJ.out⟩
                          case measure => simp [intOf]; omega
                    · have j0 : ¬ (c : Int) < (k : Int) := by omega
                      go_wp2_with fail
                      refine (awake_any _).mono ?_
                      rintro e w8 ⟨rfl, hk8⟩
                      have H8 : Hid (_) := HJ.out.fb.old.trans hk8 (by simp)
                      clear hk8 HJ
                      go_wp2_with fail
                      go_ret
                      exact ⟨rfl, H8.out⟩

theorem walk (x : Int) (a0 : Option Addr) (len0 cap0 : Nat) (w : World) (_ : (Lit.int .i64 x).wf = true) (ha : IsActs w a0 len0) :
    Calls Try.prog 3 #[.int .i64 x, .slice a0 len0 cap0] w fun e w' => e = .returned (.bool true) ∧ Below w.heap.size w w' :=
  (main x a0 len0 cap0 (1 + x % 4).toNat w (by omega) (by omega) (by rw [i64_and3, wrap_small _ (by omega) (by omega)]; omega) ha).mono fun e w' ⟨he, hk⟩ => ⟨he, hk.below (Nat.le_refl _) (by simp)⟩

set_option maxRecDepth 100000 in
theorem lifted (os : Os) (started : os.Started) (H : Type) (enc : TypeId × Value → H) :
    ReturnsInHanded {} Try.checked os 3 .any (Rows.fdsActsSpec.pre6 enc Try.prog Try.f3 Rows.fdsActsRow.domain false) (Rows.fdsActsSpec.post enc Try.prog Try.f3 false true false false) := by
  refine returnsInHanded_of_change (C := Try.checked) own started (by kernel_rfl) Try.func3
    (ChangeSpec.witness6 (enc := enc) (C := Try.checked) false ⟨#[], #[.int .i64 0, .slice none 0 0], []⟩ 8 (by kernel_rfl) (by kernel_rfl) (by kernel_rfl) (by kernel_rfl)) ?_
  intro W base args ds gs before hval0 hW hcnd _
  have hval : ∀ (j : Nat) t v, Try.f3.params[j]? = some t → args[j]? = some v → Value.okWide Try.prog W .any base t v := hval0
  have hW' := hW
  obtain ⟨p, q, hA0, hV, rfl, hfz, hnd⟩ := hW
  have hA : DataW.TrodAll enc Try.prog W 0 (fun _ => true) true Try.f3.params.toList args.toList ds p := hA0
  rw [Try.params3] at hA hval
  obtain ⟨v0, vs0, d0, ds0, p0, q0, hargs, rfl, rfl, h0, r0⟩ := trodAll_cons hA
  obtain ⟨v1, vs1, d1, ds1, p1, q1, rfl, rfl, rfl, h1, r1⟩ := trodAll_cons r0
  obtain ⟨rfl, rfl, rfl⟩ := trodAll_nil r1
  obtain rfl : args = #[v0, v1] := by cases args; simp_all
  obtain ⟨rfl, rfl⟩ := trodVars_none hV
  obtain ⟨a0, rfl, rfl, rfl, w0⟩ := open_int Try.underlying3 (hval 0 3 v0 rfl rfl) h0
  obtain ⟨a1, len1, cap1, rfl⟩ := okWide_slice Try.underlying22 (hval 1 22 v1 rfl rfl)
  have k1 := h1
  have lt1 : ∀ x ∈ p1, x.block < W.heap.size := by obtain ⟨m, hm⟩ := k1; exact DataW.trod_lt m _ _ _ hm
  have w1 : IsActs W a1 len1 := by
    obtain ⟨fuel, hf⟩ := h1
    exact acts_at hf
  clear hA0 hval0
  refine (walk a0 a1 len1 cap1 W w0 w1).mono fun e W' ⟨he, bel⟩ => ?_
  subst he
  exact ⟨_, rfl, _, _, _, [], _, [], hW', trodAll_mk1 (shut_bool Try.underlying4 _), (trodAll_cons_mk (shut_int Try.underlying3 w0) (trodAll_cons_mk (Below.trod laidOut (by kernel_rfl) (of_decide_eq_true (by kernel_rfl)) k1 bel lt1) trodAll_mk0)), rfl, bel.frame _, fun h => by cases h⟩

theorem over : Rows.fdsActsRow.holds Try.pinned (OpenSpec.ofChange Rows.fdsActsSpec) :=
  OpenClaim.holds_of_wide 3 Try.f3 rfl rfl rfl rfl rfl rfl rfl ⟨rfl, rfl, rfl, rfl, rfl⟩ rfl rfl rfl rfl rfl (by kernel_rfl) Try.func3 (by kernel_rfl)
    (of_decide_eq_true (by kernel_rfl)) (by unfold Func.isWrapper; first | (rw [if_pos (by decide +kernel)]; kernel_rfl) | (rw [if_neg (by decide +kernel)]; exact ⟨rfl, rfl⟩))
    (fun os started H enc _ => lifted os started H enc)

end Go.Proofs.Ytolbjmckebicfaa.fdsActs

namespace Go.Proofs.Ytolbjmckebicfaa
theorem fdsActs_holds : Rows.FdsActsSaid := fdsActs.over
#print axioms fdsActs_holds
end Go.Proofs.Ytolbjmckebicfaa
