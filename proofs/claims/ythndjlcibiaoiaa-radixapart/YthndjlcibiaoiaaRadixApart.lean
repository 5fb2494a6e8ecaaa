/-
  Gets read alone; Sets and Gets of unlike pages that were set before meet in no word that one of them writes.
-/
import Derived.Test.YthndjlcibiaoiaaRows
import Derived.Test.YthndjlcibiaoiaaTr
import Derived.Test.YthndjlcibiaoiaaMeet
import Derived.WalkKit
import Derived.ProofKit
import Derived.OpenShut
import Derived.ShutString
import Derived.ChangeOld
import Derived.Below
import Derived.Deep.Slices
namespace Go.Proofs.Ythndjlcibiaoiaa.radixApart
open Go.ChangeShapes Go.WideShapes Go.ChangeAt Go.RowKit
open Go.ChangeMaps (open_string shut_string)
set_option linter.unusedVariables false

theorem own : ownKnob Try.prog.godebug = none := by kernel_rfl
theorem laidOut : laidOutB Try.prog = true := by kernel_rfl

def IsRow (k : IntKind) (w : World) (a : Option Addr) (len cap : Nat) (zs : List Int) : Prop :=
  (a = none ∧ len = 0 ∧ cap = 0 ∧ zs = []) ∨
  ∃ x, a = some x ∧ len ≤ cap ∧ cap ≤ maxLen ∧ zs.length = cap ∧ (∀ i, i < zs.length → w.cell? (x.add i) = some (.int k (zs.getD i 0))) ∧ ∀ n ∈ zs, (Lit.int k n).wf = true

/-- Whatever: the first j traces are empty. -/
def Cz (j : Nat) : Trc → Prop := fun t => ∀ c, c < j → t c = []
theorem cz_zero (t : Trc) : Cz 0 t := fun c hc => by omega
theorem cz_next (j : Nat) : ∀ t, Cz j t → Cz (j + 1) (tclr t j) := by
  intro t h c hc
  unfold tclr
  by_cases e : c = j
  · rw [if_pos e]
  · rw [if_neg e]; exact h c (by omega)

/-- A core has read words of the root, and touched words of its own pages. -/
def Pa : Trc → Prop := fun t => ∀ c, c < 4 → ∀ x ∈ t c, ∃ j : Nat, x.1 = (j : Int) ∧ ((x.2 = false ∧ j < 4) ∨ (4 ≤ j ∧ j % 4 = c))
theorem cz_pa : ∀ t, Cz 4 t → Pa t := fun t h c hc x hx => by rw [h c hc] at hx; cases hx
theorem pa_put {c : Nat} {t : Trc} (h : Pa t) (j : Nat) (wr : Bool) (hj : (wr = false ∧ j < 4) ∨ (4 ≤ j ∧ j % 4 = c)) : Pa (tput t c ((j : Int), wr)) := by
  intro d hd x hx
  unfold tput at hx
  by_cases e : d = c
  · rw [if_pos e] at hx
    rcases List.mem_append.1 hx with h1 | h1
    · rw [← e] at h1; exact h d hd x h1
    · rw [List.mem_singleton] at h1
      rw [h1, e]
      exact ⟨j, rfl, hj⟩
  · rw [if_neg e] at hx; exact h d hd x hx
theorem pa_root (c p : Nat) (hp : p < 16) : ∀ t, Pa t → Pa (tput t c (((0 + p / 4 : Nat) : Int), false)) := fun t h => pa_put h _ _ (Or.inl ⟨rfl, by omega⟩)
theorem pa_leaf (c p : Nat) (wr : Bool) (hm : p % 4 = c) : ∀ t, Pa t → Pa (tput t c (((0 + (4 + p) : Nat) : Int), wr)) := fun t h => pa_put h _ _ (Or.inr ⟨by omega, by omega⟩)
theorem pa_far {t s : Trc} (ht : Pa t) (hs : Pa s) {c d : Nat} (hc : c < 4) (hd : d < c) : Far (t c) (s d) := by
  intro x hx y hy
  obtain ⟨i, h1, h2⟩ := ht c hc x hx
  obtain ⟨j, h3, h4⟩ := hs d (by omega) y hy
  by_cases e : x.1 = y.1
  · right
    have e2 : i = j := by omega
    subst e2
    rcases h2 with ⟨h2, h5⟩ | ⟨h2, h5⟩ <;> rcases h4 with ⟨h4, h6⟩ | ⟨h4, h6⟩
    · exact ⟨h2, h4⟩
    · omega
    · omega
    · omega
  · exact Or.inl e

/-- Core 0 has only read. -/
def Qz : Trc → Prop := fun t => ∀ x ∈ t 0, x.2 = false
theorem qz_clear (t : Trc) : Qz (tclr t 0) := fun x hx => by simp [tclr] at hx
theorem qz_read (j : Int) : ∀ t, Qz t → Qz (tput t 0 (j, false)) := by
  intro t h x hx
  unfold tput at hx
  rw [if_pos rfl] at hx
  rcases List.mem_append.1 hx with h1 | h1
  · exact h x h1
  · rw [List.mem_singleton] at h1; rw [h1]

theorem and1023 (n : Int) : bits .and .i64 n 1023 = n % 1024 := by
  have h1 : (BitVec.ofInt 64 1023).toNat = 2 ^ 10 - 1 := by decide
  have key : (BitVec.ofInt 64 n &&& BitVec.ofInt 64 1023).toNat = (n % ((2 ^ 64 : Nat) : Int)).toNat % 2 ^ 10 := by
    rw [BitVec.toNat_and, BitVec.toNat_ofInt, h1, Nat.and_two_pow_sub_one_eq_mod]
  show IntKind.i64.wrap ((BitVec.ofInt 64 n &&& BitVec.ofInt 64 1023).toNat : Nat) = n % 1024
  rw [key, IntKind.wrap_i64]
  omega

set_option maxRecDepth 100000 in
set_option maxHeartbeats 8000000 in
theorem main (a0 : Option Addr) (len0 cap0 : Nat) (z0 : List Int) (cut q0 : Int) (pb pc : Nat) (w : World) (hpb : pb < 16) (hpc : pc < 16) (hq0 : bits .and .i64 cut 1 = q0) (h15 : bits .and .i64 (wrap64 (Int.tdiv cut 2)) 15 = (pb : Int)) (h15' : bits .and .i64 cut 15 = (pc : Int)) (hl : len0 ≤ 9223372036854775807) (hc : ∀ i, i < len0 → ∃ bb off, a0 = some ⟨bb, off, none⟩ ∧ w.cell? ⟨bb, off + i, none⟩ = some (.int .i64 (wordAt z0 i))) :
    Calls Try.prog 4 #[.slice a0 len0 cap0, .int .i64 cut] w fun e w' => e = .returned (.bool true) ∧ Kept [] w w' := by
  have HCE : Hid (_) := hc
  have HB : Hid (_ ∧ _) := ⟨h15, h15'⟩
  clear hc h15 h15'
  go_enter Try.func4, Try.ntmps4
  go_wp2_with fail
  refine (awake_any w).mono ?_
  rintro e w1 ⟨rfl, hK1⟩
  have HK : Hid (_) := hK1
  clear hK1
  go_wp2_with fail
  refine (h_new w1 256 4 (by omega) (by omega) (by omega) (by omega)).mono ?_
  rintro e w2 ⟨b, rfl, hm⟩
  have H1 : Hid (_) := hm
  clear hm
  go_wp2_with fail
  refine (f_new (I := AnyT) (k := 4) (L := 256) H1.out 0 256 _ _ rfl rfl (by omega) (by omega) (fun _ _ _ _ => trivial) trivial).mono ?_
  rintro e w3 ⟨g, rfl, h3⟩
  have H3 : Hid (_) := h3
  clear h3 H1
  by_cases h1 : q0 = 1
  · subst h1
    go_wp2_with (first
      | (go_at_call 9; refine (num _ _).mono ?_; rintro e w' ⟨rfl, rfl⟩))
    rw [HB.out.1]
    refine (r_set (I1 := AnyT) (I2 := AnyT) H3.out 1 pb 3 (by omega) hpb (by omega) (fun _ _ => trivial) (fun _ _ => trivial) (by omega)).mono ?_
    rintro e w4 ⟨rfl, h4⟩
    have H4 : Hid (_) := h4
    clear h4 H3
    go_wp2_with fail
    try rw [HB.out.1]
    refine (r_cut H4.out 1 pb (by omega) (by omega) (anyR _ _) (anyW _ _) (by omega)).mono ?_
    rintro e w5 ⟨rfl, h5⟩
    have HS : Hid (∃ V, Rb AnyT [(g, box b 0)] w1 w5 b g 0 4 256 100 (wd V)) := ⟨_, h5.mono (by omega)⟩
    clear h5 H4
    go_wp2_with fail
    go_loopw [9] (fun i wr => ∃ j : Nat, i = .int .i64 (j : Int) ∧ j ≤ 16 ∧ Hid (∃ V, Rb AnyT [(g, box b 0)] w1 wr b g 0 4 256 (100 + 2 * j) (wd V))) (fun i _ => (16 - intOf i).toNat)
    case atStart => exact ⟨0, rfl, by omega, HS.out⟩
    case round =>
      clear HS
      obtain ⟨j, rfl, hj, HJ⟩ := hrel
      obtain ⟨V, hR⟩ := HJ.out
      have HR : Hid (_) := hR
      clear HJ hR
      by_cases hlj : j < 16
      · have i0 : (j : Int) < 16 := by omega
        go_wp2_with fail
        refine (r_set (I1 := AnyT) (I2 := AnyT) HR.out 0 j ((j : Int) + 1) (by omega) hlj (by omega) (fun _ _ => trivial) (fun _ _ => trivial) (by omega)).mono ?_
        rintro e w4 ⟨rfl, h4⟩
        have H4 : Hid (_) := h4
        clear h4 HR
        go_wp2_with fail
        go_roundw
        case rel => exact ⟨j + 1, by go_num, by omega, _, H4.out⟩
        case measure => simp [intOf]; omega
      · have i0 : ¬ (j : Int) < 16 := by omega
        have H4 : Hid (Rb (Cz 0) [(g, box b 0)] w1 _ b g 0 4 256 200 (wd V)) := Rb.mono (Rb.weak HR.out (fun t _ => cz_zero t)) (by omega)
        clear HR
        go_wp2_with fail
        go_loopw [10] (fun i wr => ∃ j : Nat, i = .int .i64 (j : Int) ∧ j ≤ 4 ∧ Hid (Rb (Cz j) [(g, box b 0)] w1 wr b g 0 4 256 200 (wd V))) (fun i _ => (4 - intOf i).toNat)
        case atStart => exact ⟨0, rfl, by omega, H4.out⟩
        case round =>
          clear H4
          obtain ⟨c, rfl, hc4, HJ⟩ := hrel
          by_cases hlc : c < 4
          · have j0 : (c : Int) < 4 := by omega
            go_wp2_with fail
            refine (r_clear (I' := Cz (c + 1)) HJ.out c (by omega) (cz_next c)).mono ?_
            rintro e w5 ⟨rfl, h5⟩
            have H5 : Hid (_) := h5
            clear h5 HJ
            go_wp2_with fail
            go_roundw
            case rel => exact ⟨c + 1, by go_num, by omega, H5.out⟩
            case measure => simp [intOf]; omega
          · have e : c = 4 := by omega
            have j0 : ¬ (c : Int) < 4 := by omega
            have H5 : Hid (Rb Pa [(g, box b 0)] w1 wr b g 0 4 256 200 (wd V)) := by have := HJ.out; rw [e] at this; exact Rb.weak this cz_pa
            clear e HJ
            go_wp2_with fail
            go_loopw [11] (fun i wr => ∃ n : Nat, i = .int .i64 (n : Int) ∧ n ≤ len0 ∧ n ≤ 60 ∧ Hid (∃ V, Rb Pa [(g, box b 0)] w1 wr b g 0 4 256 (200 + 2 * n) (wd V))) (fun i _ => (60 - intOf i).toNat)
            case atStart => exact ⟨0, rfl, by omega, by omega, _, H5.out⟩
            case round =>
              clear H5
              obtain ⟨n, rfl, hn, hn2, HJ⟩ := hrel
              obtain ⟨V, hR⟩ := HJ.out
              have HR : Hid (_) := hR
              clear HJ hR
              by_cases hlt : n < len0 ∧ n < 60
              · obtain ⟨hlt, hlt2⟩ := hlt
                obtain ⟨bb, off, rfl, hc0⟩ := HCE.out n hlt
                have hcell := (HK.out.trans (Rb.old HR.out) (by simp)).cell hc0 (by simp)
                clear hc0
                have i1 : (0 : Int) ≤ (n : Int) := by omega
                have i2 : (n : Int) < (len0 : Int) := by omega
                have i3 : (n : Int) < 60 := by omega
                obtain ⟨z, hz⟩ : ∃ z, wordAt z0 n = z := ⟨_, rfl⟩
                rw [hz] at hcell
                clear hz
                obtain ⟨c, hcc, b3⟩ : ∃ c : Nat, c < 4 ∧ bits .and .i64 z 3 = (c : Int) := ⟨(z % 4).toNat, by omega, by rw [i64_and3]; omega⟩
                obtain ⟨p, hp, hpm, bp⟩ : ∃ p : Nat, p < 16 ∧ p % 4 = c ∧ wrap64 ((c : Int) + wrap64 (4 * bits .and .i64 (wrap64 (Int.tdiv z 4)) 3)) = (p : Int) := by
                  have e := i64_and3 (wrap64 (Int.tdiv z 4))
                  refine ⟨c + 4 * (wrap64 (Int.tdiv z 4) % 4).toNat, by omega, by omega, ?_⟩
                  rw [e, wrap_small (4 * _) (by omega) (by omega), wrap_small _ (by omega) (by omega)]
                  omega
                obtain ⟨v, hv, bv⟩ : ∃ v : Int, 0 ≤ v ∧ bits .and .i64 z 1023 = v := ⟨_, by rw [and1023]; omega, rfl⟩
                have BB : Hid (_ ∧ _ ∧ _ ∧ _) := ⟨b3, bp, bv, hpm⟩
                clear b3 bp bv hpm
                obtain ⟨q, hq⟩ : ∃ q, bits .and .i64 z 16 = q := ⟨_, rfl⟩
                by_cases h16 : q = 16
                · subst h16
                  go_wp2_with fail
                  rw [BB.out.1, BB.out.2.1, BB.out.2.2.1]
                  refine (r_set (I1 := Pa) (I2 := Pa) HR.out c p v (by omega) hp hv (pa_root c p hp) (pa_leaf c p true BB.out.2.2.2) (by omega)).mono ?_
                  rintro e w6 ⟨rfl, h6⟩
                  have H6 : Hid (_) := h6
                  clear h6 HR BB
                  go_wp2_with fail
                  go_roundw
                  case rel => exact ⟨n + 1, by go_num, by omega, by omega, _, H6.out⟩
                  case measure => simp [intOf]; omega
                · have t16 : (q == 16) = false := by simp [h16]
                  clear h16
                  go_wp2_with fail
                  rw [BB.out.1, BB.out.2.1]
                  refine (r_get (I1 := Pa) (I2 := Pa) HR.out c p (by omega) hp (pa_root c p hp) (pa_leaf c p false BB.out.2.2.2) (by omega)).mono ?_
                  rintro e w6 ⟨rfl, h6⟩
                  have H6 : Hid (_) := h6
                  clear h6 HR BB
                  go_wp2_with fail
                  go_roundw
                  case rel => exact ⟨n + 1, by go_num, by omega, by omega, _, H6.out⟩
                  case measure => simp [intOf]; omega
              · have HT : Hid (_) := Rb.mono HR.out (show _ ≤ 400 by omega)
                clear HR
                by_cases hx : n < len0
                · have i1 : (n : Int) < (len0 : Int) := by omega
                  have i2 : ¬ (n : Int) < 60 := by omega
                  go_wp2_with fail
                  go_loopw [14] (fun i wr => ∃ c : Nat, i = .int .i64 (c : Int) ∧ c ≤ 4 ∧ Hid (Rb Pa [(g, box b 0)] w1 wr b g 0 4 256 400 (wd V))) (fun i _ => (4 - intOf i).toNat)
                  case atStart => exact ⟨0, rfl, by omega, HT.out⟩
                  case round =>
                    clear HT
                    obtain ⟨c, rfl, hc4, HJ⟩ := hrel
                    by_cases hlc : c < 4
                    · have j0 : (c : Int) < 4 := by omega
                      go_wp2_with fail
                      go_loopw [15] (fun i wr => ∃ d : Nat, i = .int .i64 (d : Int) ∧ d ≤ c ∧ Hid (Rb Pa [(g, box b 0)] w1 wr b g 0 4 256 400 (wd V))) (fun i _ => (c - intOf i).toNat)
                      case atStart => exact ⟨0, rfl, by omega, HJ.out⟩
                      case round =>
                        clear HJ
                        obtain ⟨d, rfl, hdc, HJ⟩ := hrel
                        by_cases hld : d < c
                        · have j1 : (d : Int) < (c : Int) := by omega
                          go_wp2_with fail
                          refine (r_trace HJ.out c (by omega) (by omega)).mono ?_
                          rintro e w5 ⟨u, t, rfl, hq, hr, hl, hk⟩
                          obtain ⟨xa, xc, rfl⟩ := hr.slice
                          have H5 : Hid (_ ∧ _ ∧ _ ∧ _) := ⟨hq, hr, hl, hk⟩
                          clear hq hr hl hk
                          go_wp2_with fail
                          refine (r_trace (Rb.still HJ.out H5.out.2.2.2) d (by omega) (by omega)).mono ?_
                          rintro e w6 ⟨u, s, rfl, hq, hr, hl, hk⟩
                          obtain ⟨ya, yc, rfl⟩ := hr.slice
                          have H6 : Hid (_ ∧ _ ∧ _ ∧ _ ∧ _) := ⟨Row.still2 H5.out.2.1 hk, hr, hl, H5.out.2.2.2.trans hk (by simp), pa_far H5.out.1 hq hlc hld⟩
                          clear hq hr hl hk
                          go_wp2_with fail
                          refine (meet_any H6.out.1 H6.out.2.1 (by have := H5.out.2.2.1; omega) (by have := H6.out.2.2.1; omega) H6.out.2.2.2.2).mono ?_
                          rintro e w7 ⟨rfl, hk7⟩
                          have H7 : Hid (_) := Rb.still HJ.out (H6.out.2.2.2.1.trans hk7 (by simp))
                          clear hk7 H6 H5 HJ
                          go_wp2_with fail
                          go_roundw
                          case rel => exact ⟨d + 1, by go_num, by omega, H7.out⟩
                          case measure => simp [intOf]; omega
                        · have j1 : ¬ (d : Int) < (c : Int) := by omega
                          go_wp2_with fail
                          go_roundw
                          case rel => exact ⟨c + 1, by go_num, by omega, HJ.out⟩
                          case measure => simp [intOf]; omega
                    · have j0 : ¬ (c : Int) < 4 := by omega
                      go_wp2_with fail
                      refine (r_clear (I' := Qz) HJ.out 0 (by omega) (fun t _ => qz_clear t)).mono ?_
                      rintro e w8 ⟨rfl, h8⟩
                      have H8 : Hid (_) := h8
                      clear h8 HJ
                      go_wp2_with fail
                      rw [HB.out.2]
                      refine (r_get (I1 := Qz) (I2 := Qz) H8.out 0 pc (by omega) hpc (qz_read _) (qz_read _) (by omega)).mono ?_
                      rintro e w9 ⟨rfl, h9⟩
                      have H9 : Hid (_) := h9
                      clear h9 H8
                      go_wp2_with fail
                      refine (r_pages H9.out 0 (by omega) (fun q _ => qz_read _) (by omega)).mono ?_
                      rintro e w10 ⟨u, D, rfl, hu, h10, -⟩
                      obtain ⟨ua, uc, rfl⟩ := hu.len
                      have H10 : Hid (_) := h10
                      clear hu h10 H9
                      go_wp2_with fail
                      refine (r_trace H10.out 0 (by omega) (by omega)).mono ?_
                      rintro e w11 ⟨u, t, rfl, hq, hr, hl, hk⟩
                      obtain ⟨xa, xc, rfl⟩ := hr.slice
                      have H11 : Hid (_ ∧ _ ∧ _ ∧ _) := ⟨hq, hr, hl, hk⟩
                      clear hq hr hl hk
                      go_wp2_with fail
                      refine (words_none H11.out.2.1 (by have := H11.out.2.2.1; omega) H11.out.1).mono ?_
                      rintro e w12 ⟨rfl, hk⟩
                      have H12 : Hid (_) := HK.out.trans ((Rb.old H10.out).trans (H11.out.2.2.2.trans hk (by simp)) (by simp)) (by simp)
                      clear hk H11 H10
                      go_wp2_with fail
                      go_ret
                      exact ⟨rfl, H12.out⟩
                · have i1 : ¬ (n : Int) < (len0 : Int) := by omega
                  go_wp2_with fail
                  go_loopw [14] (fun i wr => ∃ c : Nat, i = .int .i64 (c : Int) ∧ c ≤ 4 ∧ Hid (Rb Pa [(g, box b 0)] w1 wr b g 0 4 256 400 (wd V))) (fun i _ => (4 - intOf i).toNat)
                  case atStart => exact ⟨0, rfl, by omega, HT.out⟩
                  case round =>
                    clear HT
                    obtain ⟨c, rfl, hc4, HJ⟩ := hrel
                    by_cases hlc : c < 4
                    · have j0 : (c : Int) < 4 := by omega
                      go_wp2_with fail
                      go_loopw [15] (fun i wr => ∃ d : Nat, i = .int .i64 (d : Int) ∧ d ≤ c ∧ Hid (Rb Pa [(g, box b 0)] w1 wr b g 0 4 256 400 (wd V))) (fun i _ => (c - intOf i).toNat)
                      case atStart => exact ⟨0, rfl, by omega, HJ.out⟩
                      case round =>
                        clear HJ
                        obtain ⟨d, rfl, hdc, HJ⟩ := hrel
                        by_cases hld : d < c
                        · have j1 : (d : Int) < (c : Int) := by omega
                          go_wp2_with fail
                          refine (r_trace HJ.out c (by omega) (by omega)).mono ?_
                          rintro e w5 ⟨u, t, rfl, hq, hr, hl, hk⟩
                          obtain ⟨xa, xc, rfl⟩ := hr.slice
                          have H5 : Hid (_ ∧ _ ∧ _ ∧ _) := ⟨hq, hr, hl, hk⟩
                          clear hq hr hl hk
                          go_wp2_with fail
                          refine (r_trace (Rb.still HJ.out H5.out.2.2.2) d (by omega) (by omega)).mono ?_
                          rintro e w6 ⟨u, s, rfl, hq, hr, hl, hk⟩
                          obtain ⟨ya, yc, rfl⟩ := hr.slice
                          have H6 : Hid (_ ∧ _ ∧ _ ∧ _ ∧ _) := ⟨Row.still2 H5.out.2.1 hk, hr, hl, H5.out.2.2.2.trans hk (by simp), pa_far H5.out.1 hq hlc hld⟩
                          clear hq hr hl hk
                          go_wp2_with fail
                          refine (meet_any H6.out.1 H6.out.2.1 (by have := H5.out.2.2.1; omega) (by have := H6.out.2.2.1; omega) H6.out.2.2.2.2).mono ?_
                          rintro e w7 ⟨rfl, hk7⟩
                          have H7 : Hid (_) := Rb.still HJ.out (H6.out.2.2.2.1.trans hk7 (by simp))
                          clear hk7 H6 H5 HJ
                          go_wp2_with fail
                          go_roundw
                          case rel => exact ⟨d + 1, by go_num, by omega, H7.out⟩
                          case measure => simp [intOf]; omega
                        · have j1 : ¬ (d : Int) < (c : Int) := by omega
                          go_wp2_with fail
                          go_roundw
                          case rel => exact ⟨c + 1, by go_num, by omega, HJ.out⟩
                          case measure => simp [intOf]; omega
                    · have j0 : ¬ (c : Int) < 4 := by omega
                      go_wp2_with fail
                      refine (r_clear (I' := Qz) HJ.out 0 (by omega) (fun t _ => qz_clear t)).mono ?_
                      rintro e w8 ⟨rfl, h8⟩
                      have H8 : Hid (_) := h8
                      clear h8 HJ
                      go_wp2_with fail
                      rw [HB.out.2]
                      refine (r_get (I1 := Qz) (I2 := Qz) H8.out 0 pc (by omega) hpc (qz_read _) (qz_read _) (by omega)).mono ?_
                      rintro e w9 ⟨rfl, h9⟩
                      have H9 : Hid (_) := h9
                      clear h9 H8
                      go_wp2_with fail
                      refine (r_pages H9.out 0 (by omega) (fun q _ => qz_read _) (by omega)).mono ?_
                      rintro e w10 ⟨u, D, rfl, hu, h10, -⟩
                      obtain ⟨ua, uc, rfl⟩ := hu.len
                      have H10 : Hid (_) := h10
                      clear hu h10 H9
                      go_wp2_with fail
                      refine (r_trace H10.out 0 (by omega) (by omega)).mono ?_
                      rintro e w11 ⟨u, t, rfl, hq, hr, hl, hk⟩
                      obtain ⟨xa, xc, rfl⟩ := hr.slice
                      have H11 : Hid (_ ∧ _ ∧ _ ∧ _) := ⟨hq, hr, hl, hk⟩
                      clear hq hr hl hk
                      go_wp2_with fail
                      refine (words_none H11.out.2.1 (by have := H11.out.2.2.1; omega) H11.out.1).mono ?_
                      rintro e w12 ⟨rfl, hk⟩
                      have H12 : Hid (_) := HK.out.trans ((Rb.old H10.out).trans (H11.out.2.2.2.trans hk (by simp)) (by simp)) (by simp)
                      clear hk H11 H10
                      go_wp2_with fail
                      go_ret
                      exact ⟨rfl, H12.out⟩

  · have t1 : (q0 == 1) = false := by simp [h1]
    clear h1
    have HS : Hid (∃ V, Rb AnyT [(g, box b 0)] w1 w3 b g 0 4 256 100 (wd V)) := ⟨_, Rb.mono H3.out (by omega)⟩
    clear H3
    go_wp2_with (first
      | (go_at_call 9; refine (num _ _).mono ?_; rintro e w' ⟨rfl, rfl⟩))
    go_loopw [9] (fun i wr => ∃ j : Nat, i = .int .i64 (j : Int) ∧ j ≤ 16 ∧ Hid (∃ V, Rb AnyT [(g, box b 0)] w1 wr b g 0 4 256 (100 + 2 * j) (wd V))) (fun i _ => (16 - intOf i).toNat)
    case atStart => exact ⟨0, rfl, by omega, HS.out⟩
    case round =>
      clear HS
      obtain ⟨j, rfl, hj, HJ⟩ := hrel
      obtain ⟨V, hR⟩ := HJ.out
      have HR : Hid (_) := hR
      clear HJ hR
      by_cases hlj : j < 16
      · have i0 : (j : Int) < 16 := by omega
        go_wp2_with fail
        refine (r_set (I1 := AnyT) (I2 := AnyT) HR.out 0 j ((j : Int) + 1) (by omega) hlj (by omega) (fun _ _ => trivial) (fun _ _ => trivial) (by omega)).mono ?_
        rintro e w4 ⟨rfl, h4⟩
        have H4 : Hid (_) := h4
        clear h4 HR
        go_wp2_with fail
        go_roundw
        case rel => exact ⟨j + 1, by go_num, by omega, _, H4.out⟩
        case measure => simp [intOf]; omega
      · have i0 : ¬ (j : Int) < 16 := by omega
        have H4 : Hid (Rb (Cz 0) [(g, box b 0)] w1 _ b g 0 4 256 200 (wd V)) := Rb.mono (Rb.weak HR.out (fun t _ => cz_zero t)) (by omega)
        clear HR
        go_wp2_with fail
        go_loopw [10] (fun i wr => ∃ j : Nat, i = .int .i64 (j : Int) ∧ j ≤ 4 ∧ Hid (Rb (Cz j) [(g, box b 0)] w1 wr b g 0 4 256 200 (wd V))) (fun i _ => (4 - intOf i).toNat)
        case atStart => exact ⟨0, rfl, by omega, H4.out⟩
        case round =>
          clear H4
          obtain ⟨c, rfl, hc4, HJ⟩ := hrel
          by_cases hlc : c < 4
          · have j0 : (c : Int) < 4 := by omega
            go_wp2_with fail
            refine (r_clear (I' := Cz (c + 1)) HJ.out c (by omega) (cz_next c)).mono ?_
            rintro e w5 ⟨rfl, h5⟩
            have H5 : Hid (_) := h5
            clear h5 HJ
            go_wp2_with fail
            go_roundw
            case rel => exact ⟨c + 1, by go_num, by omega, H5.out⟩
            case measure => simp [intOf]; omega
          · have e : c = 4 := by omega
            have j0 : ¬ (c : Int) < 4 := by omega
            have H5 : Hid (Rb Pa [(g, box b 0)] w1 wr b g 0 4 256 200 (wd V)) := by have := HJ.out; rw [e] at this; exact Rb.weak this cz_pa
            clear e HJ
            go_wp2_with fail
            go_loopw [11] (fun i wr => ∃ n : Nat, i = .int .i64 (n : Int) ∧ n ≤ len0 ∧ n ≤ 60 ∧ Hid (∃ V, Rb Pa [(g, box b 0)] w1 wr b g 0 4 256 (200 + 2 * n) (wd V))) (fun i _ => (60 - intOf i).toNat)
            case atStart => exact ⟨0, rfl, by omega, by omega, _, H5.out⟩
            case round =>
              clear H5
              obtain ⟨n, rfl, hn, hn2, HJ⟩ := hrel
              obtain ⟨V, hR⟩ := HJ.out
              have HR : Hid (_) := hR
              clear HJ hR
              by_cases hlt : n < len0 ∧ n < 60
              · obtain ⟨hlt, hlt2⟩ := hlt
                obtain ⟨bb, off, rfl, hc0⟩ := HCE.out n hlt
                have hcell := (HK.out.trans (Rb.old HR.out) (by simp)).cell hc0 (by simp)
                clear hc0
                have i1 : (0 : Int) ≤ (n : Int) := by omega
                have i2 : (n : Int) < (len0 : Int) := by omega
                have i3 : (n : Int) < 60 := by omega
                obtain ⟨z, hz⟩ : ∃ z, wordAt z0 n = z := ⟨_, rfl⟩
                rw [hz] at hcell
                clear hz
                obtain ⟨c, hcc, b3⟩ : ∃ c : Nat, c < 4 ∧ bits .and .i64 z 3 = (c : Int) := ⟨(z % 4).toNat, by omega, by rw [i64_and3]; omega⟩
                obtain ⟨p, hp, hpm, bp⟩ : ∃ p : Nat, p < 16 ∧ p % 4 = c ∧ wrap64 ((c : Int) + wrap64 (4 * bits .and .i64 (wrap64 (Int.tdiv z 4)) 3)) = (p : Int) := by
                  have e := i64_and3 (wrap64 (Int.tdiv z 4))
                  refine ⟨c + 4 * (wrap64 (Int.tdiv z 4) % 4).toNat, by omega, by omega, ?_⟩
                  rw [e, wrap_small (4 * _) (by omega) (by omega), wrap_small _ (by omega) (by omega)]
                  omega
                obtain ⟨v, hv, bv⟩ : ∃ v : Int, 0 ≤ v ∧ bits .and .i64 z 1023 = v := ⟨_, by rw [and1023]; omega, rfl⟩
                have BB : Hid (_ ∧ _ ∧ _ ∧ _) := ⟨b3, bp, bv, hpm⟩
                clear b3 bp bv hpm
                obtain ⟨q, hq⟩ : ∃ q, bits .and .i64 z 16 = q := ⟨_, rfl⟩
                by_cases h16 : q = 16
                · subst h16
                  go_wp2_with fail
                  rw [BB.out.1, BB.out.2.1, BB.out.2.2.1]
                  refine (r_set (I1 := Pa) (I2 := Pa) HR.out c p v (by omega) hp hv (pa_root c p hp) (pa_leaf c p true BB.out.2.2.2) (by omega)).mono ?_
                  rintro e w6 ⟨rfl, h6⟩
                  have H6 : Hid (_) := h6
                  clear h6 HR BB
                  go_wp2_with fail
                  go_roundw
                  case rel => exact ⟨n + 1, by go_num, by omega, by omega, _, H6.out⟩
                  case measure => simp [intOf]; omega
                · have t16 : (q == 16) = false := by simp [h16]
                  clear h16
                  go_wp2_with fail
                  rw [BB.out.1, BB.out.2.1]
                  refine (r_get (I1 := Pa) (I2 := Pa) HR.out c p (by omega) hp (pa_root c p hp) (pa_leaf c p false BB.out.2.2.2) (by omega)).mono ?_
                  rintro e w6 ⟨rfl, h6⟩
                  have H6 : Hid (_) := h6
                  clear h6 HR BB
                  go_wp2_with fail
                  go_roundw
                  case rel => exact ⟨n + 1, by go_num, by omega, by omega, _, H6.out⟩
                  case measure => simp [intOf]; omega
              · have HT : Hid (_) := Rb.mono HR.out (show _ ≤ 400 by omega)
                clear HR
                by_cases hx : n < len0
                · have i1 : (n : Int) < (len0 : Int) := by omega
                  have i2 : ¬ (n : Int) < 60 := by omega
                  go_wp2_with fail
                  go_loopw [14] (fun i wr => ∃ c : Nat, i = .int .i64 (c : Int) ∧ c ≤ 4 ∧ Hid (Rb Pa [(g, box b 0)] w1 wr b g 0 4 256 400 (wd V))) (fun i _ => (4 - intOf i).toNat)
                  case atStart => exact ⟨0, rfl, by omega, HT.out⟩
                  case round =>
                    clear HT
                    obtain ⟨c, rfl, hc4, HJ⟩ := hrel
                    by_cases hlc : c < 4
                    · have j0 : (c : Int) < 4 := by omega
                      go_wp2_with fail
                      go_loopw [15] (fun i wr => ∃ d : Nat, i = .int .i64 (d : Int) ∧ d ≤ c ∧ Hid (Rb Pa [(g, box b 0)] w1 wr b g 0 4 256 400 (wd V))) (fun i _ => (c - intOf i).toNat)
                      case atStart => exact ⟨0, rfl, by omega, HJ.out⟩
                      case round =>
                        clear HJ
                        obtain ⟨d, rfl, hdc, HJ⟩ := hrel
                        by_cases hld : d < c
                        · have j1 : (d : Int) < (c : Int) := by omega
                          go_wp2_with fail
                          refine (r_trace HJ.out c (by omega) (by omega)).mono ?_
                          rintro e w5 ⟨u, t, rfl, hq, hr, hl, hk⟩
                          obtain ⟨xa, xc, rfl⟩ := hr.slice
                          have H5 : Hid (_ ∧ _ ∧ _ ∧ _) := ⟨hq, hr, hl, hk⟩
                          clear hq hr hl hk
                          go_wp2_with fail
                          refine (r_trace (Rb.still HJ.out H5.out.2.2.2) d (by omega) (by omega)).mono ?_
                          rintro e w6 ⟨u, s, rfl, hq, hr, hl, hk⟩
                          obtain ⟨ya, yc, rfl⟩ := hr.slice
                          have H6 : Hid (_ ∧ _ ∧ _ ∧ _ ∧ _) := ⟨Row.still2 H5.out.2.1 hk, hr, hl, H5.out.2.2.2.trans hk (by simp), pa_far H5.out.1 hq hlc hld⟩
                          clear hq hr hl hk
                          go_wp2_with fail
                          refine (meet_any H6.out.1 H6.out.2.1 (by have := H5.out.2.2.1; omega) (by have := H6.out.2.2.1; omega) H6.out.2.2.2.2).mono ?_
                          rintro e w7 ⟨rfl, hk7⟩
                          have H7 : Hid (_) := Rb.still HJ.out (H6.out.2.2.2.1.trans hk7 (by simp))
                          clear hk7 H6 H5 HJ
                          go_wp2_with fail
                          go_roundw
                          case rel => exact ⟨d + 1, by go_num, by omega, H7.out⟩
                          case measure => simp [intOf]; omega
                        · have j1 : ¬ (d : Int) < (c : Int) := by omega
                          go_wp2_with fail
                          go_roundw
                          case rel => exact ⟨c + 1, by go_num, by omega, HJ.out⟩
                          case measure => simp [intOf]; omega
                    · have j0 : ¬ (c : Int) < 4 := by omega
                      go_wp2_with fail
                      refine (r_clear (I' := Qz) HJ.out 0 (by omega) (fun t _ => qz_clear t)).mono ?_
                      rintro e w8 ⟨rfl, h8⟩
                      have H8 : Hid (_) := h8
                      clear h8 HJ
                      go_wp2_with fail
                      rw [HB.out.2]
                      refine (r_get (I1 := Qz) (I2 := Qz) H8.out 0 pc (by omega) hpc (qz_read _) (qz_read _) (by omega)).mono ?_
                      rintro e w9 ⟨rfl, h9⟩
                      have H9 : Hid (_) := h9
                      clear h9 H8
                      go_wp2_with fail
                      refine (r_pages H9.out 0 (by omega) (fun q _ => qz_read _) (by omega)).mono ?_
                      rintro e w10 ⟨u, D, rfl, hu, h10, -⟩
                      obtain ⟨ua, uc, rfl⟩ := hu.len
                      have H10 : Hid (_) := h10
                      clear hu h10 H9
                      go_wp2_with fail
                      refine (r_trace H10.out 0 (by omega) (by omega)).mono ?_
                      rintro e w11 ⟨u, t, rfl, hq, hr, hl, hk⟩
                      obtain ⟨xa, xc, rfl⟩ := hr.slice
                      have H11 : Hid (_ ∧ _ ∧ _ ∧ _) := ⟨hq, hr, hl, hk⟩
                      clear hq hr hl hk
                      go_wp2_with fail
                      refine (words_none H11.out.2.1 (by have := H11.out.2.2.1; omega) H11.out.1).mono ?_
                      rintro e w12 ⟨rfl, hk⟩
                      have H12 : Hid (_) := HK.out.trans ((Rb.old H10.out).trans (H11.out.2.2.2.trans hk (by simp)) (by simp)) (by simp)
                      clear hk H11 H10
                      go_wp2_with fail
                      go_ret
                      exact ⟨rfl, H12.out⟩
                · have i1 : ¬ (n : Int) < (len0 : Int) := by omega
                  go_wp2_with fail
                  go_loopw [14] (fun i wr => ∃ c : Nat, i = .int .i64 (c : Int) ∧ c ≤ 4 ∧ Hid (Rb Pa [(g, box b 0)] w1 wr b g 0 4 256 400 (wd V))) (fun i _ => (4 - intOf i).toNat)
                  case atStart => exact ⟨0, rfl, by omega, HT.out⟩
                  case round =>
                    clear HT
                    obtain ⟨c, rfl, hc4, HJ⟩ := hrel
                    by_cases hlc : c < 4
                    · have j0 : (c : Int) < 4 := by omega
                      go_wp2_with fail
                      go_loopw [15] (fun i wr => ∃ d : Nat, i = .int .i64 (d : Int) ∧ d ≤ c ∧ Hid (Rb Pa [(g, box b 0)] w1 wr b g 0 4 256 400 (wd V))) (fun i _ => (c - intOf i).toNat)
                      case atStart => exact ⟨0, rfl, by omega, HJ.out⟩
                      case round =>
                        clear HJ
                        obtain ⟨d, rfl, hdc, HJ⟩ := hrel
                        by_cases hld : d < c
                        · have j1 : (d : Int) < (c : Int) := by omega
                          go_wp2_with fail
                          refine (r_trace HJ.out c (by omega) (by omega)).mono ?_
                          rintro e w5 ⟨u, t, rfl, hq, hr, hl, hk⟩
                          obtain ⟨xa, xc, rfl⟩ := hr.slice
                          have H5 : Hid (_ ∧ _ ∧ _ ∧ _) := ⟨hq, hr, hl, hk⟩
                          clear hq hr hl hk
                          go_wp2_with fail
                          refine (r_trace (Rb.still HJ.out H5.out.2.2.2) d (by omega) (by omega)).mono ?_
                          rintro e w6 ⟨u, s, rfl, hq, hr, hl, hk⟩
                          obtain ⟨ya, yc, rfl⟩ := hr.slice
                          have H6 : Hid (_ ∧ _ ∧ _ ∧ _ ∧ _) := ⟨Row.still2 H5.out.2.1 hk, hr, hl, H5.out.2.2.2.trans hk (by simp), pa_far H5.out.1 hq hlc hld⟩
                          clear hq hr hl hk
                          go_wp2_with fail
                          refine (meet_any H6.out.1 H6.out.2.1 (by have := H5.out.2.2.1; omega) (by have := H6.out.2.2.1; omega) H6.out.2.2.2.2).mono ?_
                          rintro e w7 ⟨rfl, hk7⟩
                          have H7 : Hid (_) := Rb.still HJ.out (H6.out.2.2.2.1.trans hk7 (by simp))
                          clear hk7 H6 H5 HJ
                          go_wp2_with fail
                          go_roundw
                          case rel => exact ⟨d + 1, by go_num, by omega, H7.out⟩
                          case measure => simp [intOf]; omega
                        · have j1 : ¬ (d : Int) < (c : Int) := by omega
                          go_wp2_with fail
                          go_roundw
                          case rel => exact ⟨c + 1, by go_num, by omega, HJ.out⟩
                          case measure => simp [intOf]; omega
                    · have j0 : ¬ (c : Int) < 4 := by omega
                      go_wp2_with fail
                      refine (r_clear (I' := Qz) HJ.out 0 (by omega) (fun t _ => qz_clear t)).mono ?_
                      rintro e w8 ⟨rfl, h8⟩
                      have H8 : Hid (_) := h8
                      clear h8 HJ
                      go_wp2_with fail
                      rw [HB.out.2]
                      refine (r_get (I1 := Qz) (I2 := Qz) H8.out 0 pc (by omega) hpc (qz_read _) (qz_read _) (by omega)).mono ?_
                      rintro e w9 ⟨rfl, h9⟩
                      have H9 : Hid (_) := h9
                      clear h9 H8
                      go_wp2_with fail
                      refine (r_pages H9.out 0 (by omega) (fun q _ => qz_read _) (by omega)).mono ?_
                      rintro e w10 ⟨u, D, rfl, hu, h10, -⟩
                      obtain ⟨ua, uc, rfl⟩ := hu.len
                      have H10 : Hid (_) := h10
                      clear hu h10 H9
                      go_wp2_with fail
                      refine (r_trace H10.out 0 (by omega) (by omega)).mono ?_
                      rintro e w11 ⟨u, t, rfl, hq, hr, hl, hk⟩
                      obtain ⟨xa, xc, rfl⟩ := hr.slice
                      have H11 : Hid (_ ∧ _ ∧ _ ∧ _) := ⟨hq, hr, hl, hk⟩
                      clear hq hr hl hk
                      go_wp2_with fail
                      refine (words_none H11.out.2.1 (by have := H11.out.2.2.1; omega) H11.out.1).mono ?_
                      rintro e w12 ⟨rfl, hk⟩
                      have H12 : Hid (_) := HK.out.trans ((Rb.old H10.out).trans (H11.out.2.2.2.trans hk (by simp)) (by simp)) (by simp)
                      clear hk H11 H10
                      go_wp2_with fail
                      go_ret
                      exact ⟨rfl, H12.out⟩

theorem walk (a0 : Option Addr) (len0 cap0 : Nat) (z0 : List Int) (cut : Int) (w : World) (w0 : IsRow .i64 w a0 len0 cap0 z0) (_ : (Lit.int .i64 cut).wf = true) :
    Calls Try.prog 4 #[.slice a0 len0 cap0, .int .i64 cut] w fun e w' => e = .returned (.bool true) ∧ Below w.heap.size w w' := by
  have hlen : len0 ≤ 9223372036854775807 := by
    rcases w0 with ⟨_, h1, _, _⟩ | ⟨x, rfl, hl, hm, hz, hcell, _⟩
    · omega
    · unfold maxLen at hm; omega
  refine (main a0 len0 cap0 z0 cut _ (wrap64 (Int.tdiv cut 2) % 16).toNat (cut % 16).toNat w (by omega) (by omega) rfl (by rw [i64_and15]; omega) (by rw [i64_and15]; omega) hlen (fun i hi => ?_)).mono fun e w' ⟨he, hk⟩ => ⟨he, hk.below (Nat.le_refl _) (by simp)⟩
  rcases w0 with ⟨_, h1, _, _⟩ | ⟨x, rfl, hl, hm, hz, hcell, _⟩
  · omega
  · obtain ⟨bb, off, rfl, hc⟩ := ints_at hcell (by omega)
    exact ⟨bb, off, rfl, hc i (by omega)⟩

set_option maxRecDepth 100000 in
theorem lifted (os : Os) (started : os.Started) (H : Type) (enc : TypeId × Value → H) :
    ReturnsInHanded {} Try.checked os 4 .any (Rows.radixApartSpec.pre6 enc Try.prog Try.f4 Rows.radixApartRow.domain false) (Rows.radixApartSpec.post enc Try.prog Try.f4 false true false false) := by
  refine returnsInHanded_of_change (C := Try.checked) own started (by kernel_rfl) Try.func4
    (ChangeSpec.witness6 (enc := enc) (C := Try.checked) false ⟨#[], #[.slice none 0 0, .int .i64 0], []⟩ 8 (by kernel_rfl) (by kernel_rfl) (by kernel_rfl) (by kernel_rfl)) ?_
  intro W base args ds gs before hval0 hW hcnd _
  have hval : ∀ (j : Nat) t v, Try.f4.params[j]? = some t → args[j]? = some v → Value.okWide Try.prog W .any base t v := hval0
  have hW' := hW
  obtain ⟨p, q, hA0, hV, rfl, hfz, hnd⟩ := hW
  have hA : DataW.TrodAll enc Try.prog W 0 (fun _ => true) true Try.f4.params.toList args.toList ds p := hA0
  rw [Try.params4] at hA hval
  obtain ⟨v0, vs0, d0, ds0, p0, q0, hargs, rfl, rfl, h0, r0⟩ := trodAll_cons hA
  obtain ⟨v1, vs1, d1, ds1, p1, q1, rfl, rfl, rfl, h1, r1⟩ := trodAll_cons r0
  obtain ⟨rfl, rfl, rfl⟩ := trodAll_nil r1
  obtain rfl : args = #[v0, v1] := by cases args; simp_all
  obtain ⟨rfl, rfl⟩ := trodVars_none hV
  obtain ⟨a0, len0, cap0, rfl⟩ := okWide_slice Try.underlying31 (hval 0 31 v0 rfl rfl)
  have k0 := h0
  have lt0 : ∀ x ∈ p0, x.block < W.heap.size := by obtain ⟨m, hm⟩ := k0; exact DataW.trod_lt m _ _ _ hm
  obtain ⟨z0, w0⟩ : ∃ zs, IsRow .i64 W a0 len0 cap0 zs := by
    obtain ⟨fuel, hf⟩ := h0
    rcases open_ints Try.underlying31 Try.underlying3 (by kernel_rfl) hf with ⟨hcs, _⟩ | ⟨x, l, c, zs, hcs, _, hl, hm, hz, _, hcell, hwz⟩
    · simp [Value.cells] at hcs
      obtain ⟨rfl, rfl, rfl⟩ := hcs
      exact ⟨[], .inl ⟨rfl, rfl, rfl, rfl⟩⟩
    · simp [Value.cells] at hcs
      obtain ⟨rfl, rfl, rfl⟩ := hcs
      exact ⟨zs, .inr ⟨_, rfl, hl, hm, by simpa using hz, hcell, hwz⟩⟩
  obtain ⟨a1, rfl, rfl, rfl, w1⟩ := open_int Try.underlying3 (hval 1 3 v1 rfl rfl) h1
  clear hA0 hval0
  refine (walk a0 len0 cap0 z0 a1 W w0 w1).mono fun e W' ⟨he, bel⟩ => ?_
  subst he
  exact ⟨_, rfl, _, _, _, [], _, [], hW', trodAll_mk1 (shut_bool Try.underlying4 _), (trodAll_cons_mk (Below.trod laidOut (by kernel_rfl) (of_decide_eq_true (by kernel_rfl)) k0 bel lt0) (trodAll_cons_mk (shut_int Try.underlying3 w1) trodAll_mk0)), rfl, bel.frame _, fun h => by cases h⟩

theorem over : Rows.radixApartRow.holds Try.pinned (OpenSpec.ofChange Rows.radixApartSpec) :=
  OpenClaim.holds_of_wide 4 Try.f4 rfl rfl rfl rfl rfl rfl rfl ⟨rfl, rfl, rfl, rfl, rfl⟩ rfl rfl rfl rfl rfl (by kernel_rfl) Try.func4 (by kernel_rfl)
    (of_decide_eq_true (by kernel_rfl)) (by unfold Func.isWrapper; first | (rw [if_pos (by decide +kernel)]; kernel_rfl) | (rw [if_neg (by decide +kernel)]; exact ⟨rfl, rfl⟩))
    (fun os started H enc _ => lifted os started H enc)

end Go.Proofs.Ythndjlcibiaoiaa.radixApart

namespace Go.Proofs.Ythndjlcibiaoiaa
theorem radixApart_holds : Rows.RadixApartSaid := radixApart.over
#print axioms radixApart_holds
end Go.Proofs.Ythndjlcibiaoiaa
