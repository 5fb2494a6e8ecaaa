/-
  Incs and Decs of unlike cores touch unlike words.
-/
import Derived.Test.YtljmpcmkgeomiaaRows
import Derived.Test.YtljmpcmkgeomiaaRm
import Derived.Test.YtljmpcmkgeomiaaMeet
import Derived.WalkKit
import Derived.ProofKit
import Derived.OpenShut
import Derived.ShutString
import Derived.ChangeOld
import Derived.Below
import Derived.Deep.Slices
namespace Go.Proofs.Ytljmpcmkgeomiaa.refsApart
open Go.ChangeShapes Go.WideShapes Go.ChangeAt Go.RowKit
open Go.ChangeMaps (open_string shut_string)
set_option linter.unusedVariables false

theorem own : ownKnob Try.prog.godebug = none := by kernel_rfl
theorem laidOut : laidOutB Try.prog = true := by kernel_rfl

def IsRow (k : IntKind) (w : World) (a : Option Addr) (len cap : Nat) (zs : List Int) : Prop :=
  (a = none ∧ len = 0 ∧ cap = 0 ∧ zs = []) ∨
  ∃ x, a = some x ∧ len ≤ cap ∧ cap ≤ maxLen ∧ zs.length = cap ∧ (∀ i, i < zs.length → w.cell? (x.add i) = some (.int k (zs.getD i 0))) ∧ ∀ n ∈ zs, (Lit.int k n).wf = true

/-- The words of a core's own row. -/
def Pw (c j : Nat) : Prop := 3 + c * 10 ≤ j ∧ j < 13 + c * 10

theorem pw (c i : Nat) (hi : i < 8 + 2) : Pw c (pl 3 8 c i) := by unfold Pw pl; omega

theorem far_of {k : Nat} {A : Ar} (h : ∀ c, c < k → ∀ x ∈ A.traces.getD c [], ∃ j : Nat, x.1 = (j : Int) ∧ Pw c j) {c d : Nat} (hc : c < k) (hd : d < c) : Far (A.traces.getD c []) (A.traces.getD d []) := by
  intro x hx y hy e
  obtain ⟨i, h1, h2⟩ := h c hc x hx
  obtain ⟨j, h3, h4⟩ := h d (by omega) y hy
  unfold Pw at h2 h4
  omega

theorem Row.still2 {w w' : World} {v : Value} {t : List (Int × Bool)} (h : Row w v t) (hk : Kept [] w w') : Row w' v t :=
  h.same fun k hx => hk.block k (h.block k hx) (by simp)

/-- The traces of the cores below j are empty. -/
def Cl (S : List (Nat × Obj)) (w0 w : World) (b k j : Nat) : Prop :=
  ∃ A, Hs S w0 w b A ∧ A.words.length = 1000 ∧ A.traces.length = k ∧ ∀ c, c < j → A.traces.getD c [] = []

theorem Cl.next {S : List (Nat × Obj)} {w0 w : World} {b k j : Nat} (h : Cl S w0 w b k j) (hj : j < k) :
    Calls Try.prog 20 #[.pointer (some ⟨b, 0, none⟩), .int .i64 (j : Int)] w fun e w' => e = .returned (.int .i64 0) ∧ Cl S w0 w' b k (j + 1) := by
  obtain ⟨A, hH, h1, h2, h3⟩ := h
  refine (h_clear hH (j : Int) (by omega) (by omega)).mono ?_
  rintro e w' ⟨rfl, h4⟩
  simp only [Int.toNat_natCast] at h4
  refine ⟨rfl, _, h4, h1, by rw [clear_cores]; exact h2, fun c hc => ?_⟩
  rw [clear_trace _ _ _ (by omega)]
  by_cases e : c = j
  · rw [if_pos e]
  · rw [if_neg e]; exact h3 c (by omega)

theorem Cl.rs {S : List (Nat × Obj)} {w0 w : World} {b g k : Nat} (h : Cl S w0 w b k k) (hg : (g, box b 3 8) ∈ S) (k1 : 1 ≤ k) (k5 : k ≤ 5) : ∃ W, Rs Pw S w0 w b g 3 8 k 1000 0 W := by
  obtain ⟨A, hH, h1, h2, h3⟩ := h
  refine ⟨fun r i => wordAt A.words (pl 3 8 r i), ⟨⟨by omega, by omega, by omega, by omega, by omega, by omega⟩, hg, A, hH, h1, h2, fun c => ?_, fun c hc x hx => ?_, fun _ _ _ _ => rfl⟩⟩
  · by_cases hc : c < k
    · rw [h3 c hc]; exact Nat.le_refl _
    · rw [List.getD, List.getElem?_eq_none (by omega)]; exact Nat.le_refl _
  · rw [h3 c hc] at hx; cases hx

theorem rem_nat (i k : Nat) : (i : Int) % (k : Int) = ((i % k : Nat) : Int) := rfl

/-- The traces of two cores. -/
theorem t_trace {S : List (Nat × Obj)} {w0 w : World} {b g k N : Nat} {W : Nat → Nat → Int} {A : Ar} (hH : Hs S w0 w b A) (c : Nat) (hc : c < A.traces.length) (hN : ∀ c, (A.traces.getD c []).length ≤ N) (hN2 : N < 100000) :
    Calls Try.prog 22 #[.pointer (some ⟨b, 0, none⟩), .int .i64 (c : Int)] w fun e w' => ∃ u, e = .returned u ∧ Row w' u (A.traces.getD c []) ∧ Kept [] w w' := by
  refine (h_trace hH (c : Int) (by omega) (by omega) (by have := hN c; simp only [Int.toNat_natCast]; omega)).mono ?_
  rintro e w' ⟨u, he, hr, -, hk⟩
  exact ⟨u, he, hr, hk⟩

set_option maxRecDepth 100000 in
set_option maxHeartbeats 8000000 in
theorem main (a0 : Option Addr) (len0 cap0 : Nat) (z0 : List Int) (cores : Int) (k : Nat) (w : World) (k2 : 2 ≤ k) (k5 : k ≤ 5) (hk : bits .and .i64 cores 3 = (k : Int) - 2) (hl : len0 ≤ 9223372036854775807) (hc : ∀ i, i < len0 → ∃ bb off, a0 = some ⟨bb, off, none⟩ ∧ w.cell? ⟨bb, off + i, none⟩ = some (.int .i64 (wordAt z0 i))) :
    Calls Try.prog 4 #[.slice a0 len0 cap0, .int .i64 cores] w fun e w' => e = .returned (.bool true) ∧ Kept [] w w' := by
  have HCE : Hid (_) := hc
  have hk2 : wrap64 (2 + ((k : Int) - 2)) = (k : Int) := by rw [wrap_small _ (by omega) (by omega)]; omega
  have HB : Hid (_ ∧ _) := ⟨hk, hk2⟩
  clear hc hk hk2
  go_enter Try.func4, Try.ntmps4
  go_wp2_with fail
  refine (awake_any w).mono ?_
  rintro e w1 ⟨rfl, hK1⟩
  have HK : Hid (_) := hK1
  clear hK1
  go_wp2_with fail
  rw [HB.out.1, HB.out.2]
  refine (h_new w1 1000 (k : Int) (by omega) (by omega) (by omega) (by omega)).mono ?_
  rintro e w2 ⟨b, rfl, hm⟩
  have H1 : Hid (_) := hm
  clear hm HB
  go_wp2_with fail
  refine (m_new (P := Any) (f := 3) (n := 8) _ H1.out 1000 k rfl ⟨by omega, by omega, by omega, by omega, by omega, by omega⟩ any).mono ?_
  rintro e w3 ⟨g, rfl, h3⟩
  have H3 : Hid (Cl [(g, box b 3 8)] w1 w3 b k 0) := by
    obtain ⟨W, ⟨F, hS, A, hH, q1, q2, -⟩, -⟩ := h3
    exact ⟨A, hH, q1, q2, fun c hc => by omega⟩
  clear h3 H1
  go_wp2_with (first
    | (go_at_call 9; refine (num _ _).mono ?_; rintro e w' ⟨rfl, rfl⟩))
  go_loopw [10] (fun i wr => ∃ j : Nat, i = .int .i64 (j : Int) ∧ j ≤ k ∧ Hid (Cl [(g, box b 3 8)] w1 wr b k j)) (fun i _ => (k - intOf i).toNat)
  case atStart => exact ⟨0, rfl, by omega, H3.out⟩
  case round =>
    clear H3
    obtain ⟨j, rfl, hj, HJ⟩ := hrel
    by_cases hlt : j < k
    · have i0 : (j : Int) < (k : Int) := by omega
      go_wp2_with fail
      refine (Cl.next HJ.out hlt).mono ?_
      rintro e w4 ⟨rfl, h4⟩
      have H4 : Hid (_) := h4
      clear h4 HJ
      go_wp2
      go_roundw
      case rel => exact ⟨j + 1, by go_num, by omega, H4.out⟩
      case measure => simp [intOf]; omega
    · have e : j = k := by omega
      have H4 : Hid (∃ W, Rs Pw [(g, box b 3 8)] w1 wr b g 3 8 k 1000 0 W) := Cl.rs (by have := HJ.out; rw [e] at this; exact this) (by simp) (by omega) (by omega)
      have i0 : ¬ (j : Int) < (k : Int) := by omega
      clear e HJ
      go_wp2_with fail
      go_loopw [11] (fun i wr => ∃ n : Nat, i = .int .i64 (n : Int) ∧ n ≤ len0 ∧ n ≤ 60 ∧ Hid (∃ W, Rs Pw [(g, box b 3 8)] w1 wr b g 3 8 k 1000 (3 * n) W)) (fun i _ => (60 - intOf i).toNat)
      case atStart => exact ⟨0, rfl, by omega, by omega, H4.out⟩
      case round =>
        clear H4
        obtain ⟨n, rfl, hn, hn2, HJ⟩ := hrel
        obtain ⟨W, hR⟩ := HJ.out
        have HR : Hid (_) := hR
        clear HJ hR
        by_cases hlt : n < len0 ∧ n < 60
        · obtain ⟨hlt, hlt2⟩ := hlt
          obtain ⟨bb, off, rfl, hc0⟩ := HCE.out n hlt
          have hcell := (HK.out.trans (Rs.old HR.out) (by simp)).cell hc0 (by simp)
          clear hc0
          have i1 : (0 : Int) ≤ (n : Int) := by omega
          have i2 : (n : Int) < (len0 : Int) := by omega
          have i3 : (n : Int) < 60 := by omega
          have i4 : (k : Int) ≠ 0 := by omega
          have i5 : ((k : Int) == 0) = false := by simp; omega
          obtain ⟨o, ho, b7⟩ : ∃ o : Nat, o < 8 ∧ bits .and .i64 (wordAt z0 n) 7 = (o : Int) := ⟨(wordAt z0 n % 8).toNat, by omega, by rw [i64_and7]; omega⟩
          have B7 : Hid (_) := b7
          clear b7
          have hr := rem_nat n k
          obtain ⟨c, hc⟩ : ∃ c, c = n % k := ⟨_, rfl⟩
          rw [← hc] at hr
          have hck : c < k := by rw [hc]; exact Nat.mod_lt _ (by omega)
          clear hc
          have HRM : Hid (_) := hr
          clear hr
          obtain ⟨q, hq⟩ : ∃ q, bits .and .i64 (wordAt z0 n) 8 = q := ⟨_, rfl⟩
          by_cases h8 : q = 8
          · subst h8
            go_wp2_with fail
            rw [HRM.out, B7.out]
            refine (r_inc HR.out c o hck ho (fun i hi => pw c i hi) (by omega)).mono ?_
            rintro e w4 ⟨rfl, h4⟩
            have H4 : Hid (_) := h4.mono (show _ ≤ 3 * (n + 1) by omega)
            clear h4 HR B7 HRM
            go_wp2
            go_roundw
            case rel => exact ⟨n + 1, by go_num, by omega, by omega, _, H4.out⟩
            case measure => simp [intOf]; omega
          · have t8 : (q == 8) = false := by simp [h8]
            clear h8
            go_wp2_with fail
            rw [HRM.out, B7.out]
            refine (r_dec HR.out c o hck ho (fun i hi => pw c i hi) (by omega)).mono ?_
            rintro e w4 ⟨rfl, h4⟩
            have H4 : Hid (_) := h4.mono (show _ ≤ 3 * (n + 1) by omega)
            clear h4 HR B7 HRM
            go_wp2
            go_roundw
            case rel => exact ⟨n + 1, by go_num, by omega, by omega, _, H4.out⟩
            case measure => simp [intOf]; omega
        · have HT : Hid (_) := Rs.mono HR.out (show _ ≤ 180 by omega)
          clear HR
          by_cases hx : n < len0
          · have i1 : (n : Int) < (len0 : Int) := by omega
            have i2 : ¬ (n : Int) < 60 := by omega
            go_wp2_with fail
            go_loopw [13] (fun i wr => ∃ c : Nat, i = .int .i64 (c : Int) ∧ c ≤ k ∧ Hid (Rs Pw [(g, box b 3 8)] w1 wr b g 3 8 k 1000 180 W)) (fun i _ => (k - intOf i).toNat)
            case atStart => exact ⟨0, rfl, by omega, HT.out⟩
            case round =>
              clear HT
              obtain ⟨c, rfl, hck, HJ⟩ := hrel
              by_cases hlc : c < k
              · have j0 : (c : Int) < (k : Int) := by omega
                go_wp2_with fail
                go_loopw [14] (fun i wr => ∃ d : Nat, i = .int .i64 (d : Int) ∧ d ≤ c ∧ Hid (Rs Pw [(g, box b 3 8)] w1 wr b g 3 8 k 1000 180 W)) (fun i _ => (c - intOf i).toNat)
                case atStart => exact ⟨0, rfl, by omega, HJ.out⟩
                case round =>
                  clear HJ
                  obtain ⟨d, rfl, hdc, HJ⟩ := hrel
                  by_cases hld : d < c
                  · have j1 : (d : Int) < (c : Int) := by omega
                    obtain ⟨F, hS, A, hH, q1, q2, q3, q4, q5⟩ := HJ.out
                    have HA : Hid (_ ∧ _ ∧ _ ∧ _) := ⟨hH, q2, q3, q4⟩
                    clear F hS hH q1 q2 q3 q4 q5
                    go_wp2_with fail
                    refine (t_trace (g := g) (k := k) (W := W) HA.out.1 c (by rw [HA.out.2.1]; exact hlc) HA.out.2.2.1 (by omega)).mono ?_
                    rintro e w5 ⟨u, rfl, hr5, hk5⟩
                    obtain ⟨ua, uc, rfl⟩ := hr5.slice
                    have H5 : Hid (_ ∧ _) := ⟨hr5, hk5⟩
                    clear hr5 hk5
                    go_wp2_with fail
                    refine (t_trace (g := g) (k := k) (W := W) (HA.out.1.still H5.out.2) d (by rw [HA.out.2.1]; omega) HA.out.2.2.1 (by omega)).mono ?_
                    rintro e w6 ⟨u, rfl, hr6, hk6⟩
                    obtain ⟨va, vc, rfl⟩ := hr6.slice
                    have H6 : Hid (_ ∧ _ ∧ _) := ⟨Row.still2 H5.out.1 hk6, hr6, H5.out.2.trans hk6 (by simp)⟩
                    clear hr6 hk6 H5
                    go_wp2_with fail
                    refine (meet_any H6.out.1 H6.out.2.1 (by have := HA.out.2.2.1 c; omega) (by have := HA.out.2.2.1 d; omega) (far_of HA.out.2.2.2 hlc hld)).mono ?_
                    rintro e w7 ⟨rfl, hk7⟩
                    have H7 : Hid (_) := Rs.still HJ.out (H6.out.2.2.trans hk7 (by simp))
                    clear hk7 H6 HA HJ
                    go_wp2
                    go_roundw
                    case rel => exact ⟨d + 1, by go_num, by omega, H7.out⟩
                    case measure => simp [intOf]; omega
                  · have j1 : ¬ (d : Int) < (c : Int) := by omega
                    go_wp2
                    go_roundw
                    case rel => exact ⟨c + 1, by go_num, by omega, HJ.out⟩
                    case measure => simp [intOf]; omega
              · have j0 : ¬ (c : Int) < (k : Int) := by omega
                have HF : Hid (_) := HK.out.trans (Rs.old HJ.out) (by simp)
                clear HJ
                go_wp2_with fail
                go_ret
                exact ⟨rfl, HF.out⟩
          · have i1 : ¬ (n : Int) < (len0 : Int) := by omega
            go_wp2_with fail
            go_loopw [13] (fun i wr => ∃ c : Nat, i = .int .i64 (c : Int) ∧ c ≤ k ∧ Hid (Rs Pw [(g, box b 3 8)] w1 wr b g 3 8 k 1000 180 W)) (fun i _ => (k - intOf i).toNat)
            case atStart => exact ⟨0, rfl, by omega, HT.out⟩
            case round =>
              clear HT
              obtain ⟨c, rfl, hck, HJ⟩ := hrel
              by_cases hlc : c < k
              · have j0 : (c : Int) < (k : Int) := by omega
                go_wp2_with fail
                go_loopw [14] (fun i wr => ∃ d : Nat, i = .int .i64 (d : Int) ∧ d ≤ c ∧ Hid (Rs Pw [(g, box b 3 8)] w1 wr b g 3 8 k 1000 180 W)) (fun i _ => (c - intOf i).toNat)
                case atStart => exact ⟨0, rfl, by omega, HJ.out⟩
                case round =>
                  clear HJ
                  obtain ⟨d, rfl, hdc, HJ⟩ := hrel
                  by_cases hld : d < c
                  · have j1 : (d : Int) < (c : Int) := by omega
                    obtain ⟨F, hS, A, hH, q1, q2, q3, q4, q5⟩ := HJ.out
                    have HA : Hid (_ ∧ _ ∧ _ ∧ _) := ⟨hH, q2, q3, q4⟩
                    clear F hS hH q1 q2 q3 q4 q5
                    go_wp2_with fail
                    refine (t_trace (g := g) (k := k) (W := W) HA.out.1 c (by rw [HA.out.2.1]; exact hlc) HA.out.2.2.1 (by omega)).mono ?_
                    rintro e w5 ⟨u, rfl, hr5, hk5⟩
                    obtain ⟨ua, uc, rfl⟩ := hr5.slice
                    have H5 : Hid (_ ∧ _) := ⟨hr5, hk5⟩
                    clear hr5 hk5
                    go_wp2_with fail
                    refine (t_trace (g := g) (k := k) (W := W) (HA.out.1.still H5.out.2) d (by rw [HA.out.2.1]; omega) HA.out.2.2.1 (by omega)).mono ?_
                    rintro e w6 ⟨u, rfl, hr6, hk6⟩
                    obtain ⟨va, vc, rfl⟩ := hr6.slice
                    have H6 : Hid (_ ∧ _ ∧ _) := ⟨Row.still2 H5.out.1 hk6, hr6, H5.out.2.trans hk6 (by simp)⟩
                    clear hr6 hk6 H5
                    go_wp2_with fail
                    refine (meet_any H6.out.1 H6.out.2.1 (by have := HA.out.2.2.1 c; omega) (by have := HA.out.2.2.1 d; omega) (far_of HA.out.2.2.2 hlc hld)).mono ?_
                    rintro e w7 ⟨rfl, hk7⟩
                    have H7 : Hid (_) := Rs.still HJ.out (H6.out.2.2.trans hk7 (by simp))
                    clear hk7 H6 HA HJ
                    go_wp2
                    go_roundw
                    case rel => exact ⟨d + 1, by go_num, by omega, H7.out⟩
                    case measure => simp [intOf]; omega
                  · have j1 : ¬ (d : Int) < (c : Int) := by omega
                    go_wp2
                    go_roundw
                    case rel => exact ⟨c + 1, by go_num, by omega, HJ.out⟩
                    case measure => simp [intOf]; omega
              · have j0 : ¬ (c : Int) < (k : Int) := by omega
                have HF : Hid (_) := HK.out.trans (Rs.old HJ.out) (by simp)
                clear HJ
                go_wp2_with fail
                go_ret
                exact ⟨rfl, HF.out⟩

theorem walk (a0 : Option Addr) (len0 cap0 : Nat) (z0 : List Int) (cores : Int) (w : World) (w0 : IsRow .i64 w a0 len0 cap0 z0) (_ : (Lit.int .i64 cores).wf = true) :
    Calls Try.prog 4 #[.slice a0 len0 cap0, .int .i64 cores] w fun e w' => e = .returned (.bool true) ∧ Below w.heap.size w w' := by
  have h3 : bits .and .i64 cores 3 = (((cores % 4).toNat + 2 : Nat) : Int) - 2 := by rw [i64_and3]; omega
  have hlen : len0 ≤ 9223372036854775807 := by
    rcases w0 with ⟨_, h1, _, _⟩ | ⟨x, rfl, hl, hm, hz, hcell, _⟩
    · omega
    · unfold maxLen at hm; omega
  refine (main a0 len0 cap0 z0 cores _ w (by omega) (by omega) h3 hlen (fun i hi => ?_)).mono fun e w' ⟨he, hk⟩ => ⟨he, hk.below (Nat.le_refl _) (by simp)⟩
  rcases w0 with ⟨_, h1, _, _⟩ | ⟨x, rfl, hl, hm, hz, hcell, _⟩
  · omega
  · obtain ⟨bb, off, rfl, hc⟩ := ints_at hcell (by omega)
    exact ⟨bb, off, rfl, hc i (by omega)⟩

set_option maxRecDepth 100000 in
theorem lifted (os : Os) (started : os.Started) (H : Type) (enc : TypeId × Value → H) :
    ReturnsInHanded {} Try.checked os 4 .any (Rows.refsApartSpec.pre6 enc Try.prog Try.f4 Rows.refsApartRow.domain false) (Rows.refsApartSpec.post enc Try.prog Try.f4 false true false false) := by
  refine returnsInHanded_of_change (C := Try.checked) own started (by kernel_rfl) Try.func4
    (ChangeSpec.witness6 (enc := enc) (C := Try.checked) false ⟨#[], #[.slice none 0 0, .int .i64 0], []⟩ 8 (by kernel_rfl) (by kernel_rfl) (by kernel_rfl) (by kernel_rfl)) ?_
  intro W base args ds gs before hval0 hW hcnd _
  have hval : ∀ (j : Nat) t v, Try.f4.params[j]? = some t → args[j]? = some v → Value.okWide Try.prog W .any base t v := hval0
  have hW' := hW
  obtain ⟨p, q, hA0, hV, rfl, hfz, hnd⟩ := hW
  have hA : DataW.TrodAll enc Try.prog W 0 (fun _ => true) true Try.f4.params.toList args.toList ds p := hA0
  rw [Try.params4] at hA hval
  obtain ⟨v0, vs0, d0, ds0, p0, q0, hargs, rfl, rfl, h0, r0⟩ := trodAll_cons hA
  obtain ⟨v1, vs1, d1, ds1, p1, q1, rfl, rfl, rfl, h1, r1⟩ := trodAll_cons r0
  obtain ⟨rfl, rfl, rfl⟩ := trodAll_nil r1
  obtain rfl : args = #[v0, v1] := by cases args; simp_all
  obtain ⟨rfl, rfl⟩ := trodVars_none hV
  obtain ⟨a0, len0, cap0, rfl⟩ := okWide_slice Try.underlying33 (hval 0 33 v0 rfl rfl)
  have k0 := h0
  have lt0 : ∀ x ∈ p0, x.block < W.heap.size := by obtain ⟨m, hm⟩ := k0; exact DataW.trod_lt m _ _ _ hm
  obtain ⟨z0, w0⟩ : ∃ zs, IsRow .i64 W a0 len0 cap0 zs := by
    obtain ⟨fuel, hf⟩ := h0
    rcases open_ints Try.underlying33 Try.underlying3 (by kernel_rfl) hf with ⟨hcs, _⟩ | ⟨x, l, c, zs, hcs, _, hl, hm, hz, _, hcell, hwz⟩
    · simp [Value.cells] at hcs
      obtain ⟨rfl, rfl, rfl⟩ := hcs
      exact ⟨[], .inl ⟨rfl, rfl, rfl, rfl⟩⟩
    · simp [Value.cells] at hcs
      obtain ⟨rfl, rfl, rfl⟩ := hcs
      exact ⟨zs, .inr ⟨_, rfl, hl, hm, by simpa using hz, hcell, hwz⟩⟩
  obtain ⟨a1, rfl, rfl, rfl, w1⟩ := open_int Try.underlying3 (hval 1 3 v1 rfl rfl) h1
  clear hA0 hval0
  refine (walk a0 len0 cap0 z0 a1 W w0 w1).mono fun e W' ⟨he, bel⟩ => ?_
  subst he
  exact ⟨_, rfl, _, _, _, [], _, [], hW', trodAll_mk1 (shut_bool Try.underlying4 _), (trodAll_cons_mk (Below.trod laidOut (by kernel_rfl) (of_decide_eq_true (by kernel_rfl)) k0 bel lt0) (trodAll_cons_mk (shut_int Try.underlying3 w1) trodAll_mk0)), rfl, bel.frame _, fun h => by cases h⟩

theorem over : Rows.refsApartRow.holds Try.pinned (OpenSpec.ofChange Rows.refsApartSpec) :=
  OpenClaim.holds_of_wide 4 Try.f4 rfl rfl rfl rfl rfl rfl rfl ⟨rfl, rfl, rfl, rfl, rfl⟩ rfl rfl rfl rfl rfl (by kernel_rfl) Try.func4 (by kernel_rfl)
    (of_decide_eq_true (by kernel_rfl)) (by unfold Func.isWrapper; first | (rw [if_pos (by decide +kernel)]; kernel_rfl) | (rw [if_neg (by decide +kernel)]; exact ⟨rfl, rfl⟩))
    (fun os started H enc _ => lifted os started H enc)

end Go.Proofs.Ytljmpcmkgeomiaa.refsApart

namespace Go.Proofs.Ytljmpcmkgeomiaa
theorem refsApart_holds : Rows.RefsApartSaid := refsApart.over
#print axioms refsApart_holds
end Go.Proofs.Ytljmpcmkgeomiaa
