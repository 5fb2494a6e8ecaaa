/-
  Looking writes no word.
-/
import Derived.Test.YthndjlcibiaoiaaRows
import Derived.Test.YthndjlcibiaoiaaTr
import Derived.WalkKit
import Derived.Deep.RegionHeld3
import Derived.ProofKit
import Derived.OpenShut
import Derived.ShutString
import Derived.ChangeOld
import Derived.Below
import Derived.Deep.Slices
namespace Go.Proofs.Ythndjlcibiaoiaa.radixReads
open Go.ChangeShapes Go.WideShapes Go.ChangeAt Go.RowKit
open Go.ChangeMaps (open_string shut_string)
set_option linter.unusedVariables false

theorem own : ownKnob Try.prog.godebug = none := by kernel_rfl
theorem laidOut : laidOutB Try.prog = true := by kernel_rfl

def IsRow (k : IntKind) (w : World) (a : Option Addr) (len cap : Nat) (zs : List Int) : Prop :=
  (a = none ∧ len = 0 ∧ cap = 0 ∧ zs = []) ∨
  ∃ x, a = some x ∧ len ≤ cap ∧ cap ≤ maxLen ∧ zs.length = cap ∧ (∀ i, i < zs.length → w.cell? (x.add i) = some (.int k (zs.getD i 0))) ∧ ∀ n ∈ zs, (Lit.int k n).wf = true

/-- Core 1 has only read, so many times at least. -/
def Qt (p : Nat) : Trc → Prop := fun t => (∀ x ∈ t 1, x.2 = false) ∧ p ≤ (t 1).length

theorem qt_clear (t : Trc) : Qt 0 (tclr t 1) := ⟨fun x hx => by simp [tclr] at hx, Nat.zero_le _⟩
theorem qt_next (p : Nat) (j : Int) : ∀ t, Qt p t → Qt (p + 1) (tput t 1 (j, false)) := by
  rintro t ⟨h1, h2⟩
  unfold Qt tput
  rw [if_pos rfl]
  refine ⟨fun x hx => ?_, by rw [List.length_append]; simp only [List.length_cons, List.length_nil]; omega⟩
  rcases List.mem_append.1 hx with h | h
  · exact h1 x h
  · rw [List.mem_singleton] at h; rw [h]
theorem qt_read (p : Nat) (j : Int) : ∀ t, Qt p t → Qt p (tput t 1 (j, false)) := fun t h => ⟨(qt_next p j t h).1, Nat.le_of_succ_le (qt_next p j t h).2⟩

theorem and255 (n : Int) : bits .and .i64 n 255 = n % 256 := by
  have h1 : (BitVec.ofInt 64 255).toNat = 2 ^ 8 - 1 := by decide
  have key : (BitVec.ofInt 64 n &&& BitVec.ofInt 64 255).toNat = (n % ((2 ^ 64 : Nat) : Int)).toNat % 2 ^ 8 := by
    rw [BitVec.toNat_and, BitVec.toNat_ofInt, h1, Nat.and_two_pow_sub_one_eq_mod]
  show IntKind.i64.wrap ((BitVec.ofInt 64 n &&& BitVec.ofInt 64 255).toNat : Nat) = n % 256
  rw [key, IntKind.wrap_i64]
  omega

set_option maxRecDepth 100000 in
set_option maxHeartbeats 8000000 in
theorem main (a0 : Option Addr) (len0 cap0 : Nat) (z0 : List Int) (w : World) (hl : len0 ≤ 9223372036854775807) (hc : ∀ i, i < len0 → ∃ bb off, a0 = some ⟨bb, off, none⟩ ∧ w.cell? ⟨bb, off + i, none⟩ = some (.int .i64 (wordAt z0 i))) :
    Calls Try.prog 6 #[.slice a0 len0 cap0] w fun e w' => e = .returned (.bool true) ∧ Kept [] w w' := by
  have HCE : Hid (_) := hc
  clear hc
  go_enter Try.func6, Try.ntmps6
  go_wp2_with fail
  refine (awake_any w).mono ?_
  rintro e w1 ⟨rfl, hK1⟩
  have HK : Hid (_) := hK1
  clear hK1
  go_wp2_with fail
  refine (h_new w1 256 2 (by omega) (by omega) (by omega) (by omega)).mono ?_
  rintro e w2 ⟨b, rfl, hm⟩
  have H1 : Hid (_) := hm
  clear hm
  go_wp2_with fail
  refine (f_new (I := AnyT) (k := 2) (L := 256) H1.out 0 256 _ _ rfl rfl (by omega) (by omega) (fun _ _ _ _ => trivial) trivial).mono ?_
  rintro e w3 ⟨g, rfl, h3⟩
  have H3 : Hid (∃ V, Rb AnyT [(g, box b 0)] w1 w3 b g 0 2 256 20 (wd V)) := ⟨_, h3⟩
  clear h3 H1
  go_wp2_with fail
  go_loopw [7] (fun i wr => ∃ n : Nat, i = .int .i64 (n : Int) ∧ n ≤ len0 ∧ n ≤ 40 ∧ Hid (∃ V, Rb AnyT [(g, box b 0)] w1 wr b g 0 2 256 (20 + 48 * n) (wd V))) (fun i _ => (40 - intOf i).toNat)
  case atStart => exact ⟨0, rfl, by omega, by omega, H3.out⟩
  case round =>
    clear H3
    obtain ⟨n, rfl, hn, hn2, HJ⟩ := hrel
    obtain ⟨V, hR⟩ := HJ.out
    have HR : Hid (_) := hR
    clear HJ hR
    by_cases hlt : n < len0 ∧ n < 40
    · obtain ⟨hlt, hlt2⟩ := hlt
      obtain ⟨bb, off, rfl, hc0⟩ := HCE.out n hlt
      have hcell := (HK.out.trans (Rb.old HR.out) (by simp)).cell hc0 (by simp)
      have HC0 : Hid (_) := hc0
      clear hc0
      have i1 : (0 : Int) ≤ (n : Int) := by omega
      have i2 : (n : Int) < (len0 : Int) := by omega
      have i3 : (n : Int) < 40 := by omega
      obtain ⟨z, hz⟩ : ∃ z, wordAt z0 n = z := ⟨_, rfl⟩
      rw [hz] at hcell HC0
      clear hz
      obtain ⟨p, hp, b15⟩ : ∃ p : Nat, p < 16 ∧ bits .and .i64 (wrap64 (Int.tdiv z 8)) 15 = (p : Int) := ⟨(wrap64 (Int.tdiv z 8) % 16).toNat, by omega, by rw [i64_and15]; omega⟩
      have b15' : bits .and .i64 (IntKind.i64.wrap (Int.tdiv z 8)) 15 = (p : Int) := by rw [← b15, IntWalk.i64_left]
      obtain ⟨v, hv, b255⟩ : ∃ v : Int, 0 ≤ v ∧ bits .and .i64 z 255 = v := ⟨_, by rw [and255]; omega, rfl⟩
      have BB : Hid (_ ∧ _ ∧ _) := ⟨b15, b255, b15'⟩
      clear b15 b255 b15'
      obtain ⟨q, hq⟩ : ∃ q, bits .and .i64 z 7 = q := ⟨_, rfl⟩
      by_cases h7 : q = 7
      · subst h7
        go_wp2_with fail
        rw [BB.out.1]
        refine (r_cut HR.out 0 p (by omega) (by omega) (anyR _ _) (anyW _ _) (by omega)).mono ?_
        rintro e w4 ⟨rfl, h4⟩
        have H4 : Hid (_) := h4.mono (show _ ≤ 20 + 48 * (n + 1) by omega)
        clear h4 HR BB
        go_wp2_with fail
        go_roundw
        case rel => exact ⟨n + 1, by go_num, by omega, by omega, _, H4.out⟩
        case measure => simp [intOf]; omega
      · have t7 : (q == 7) = false := by simp [h7]
        clear h7
        go_wp2_with fail
        have HD : Hid (_ ∧ _) := ⟨Rb.still HR.out (Kept.refl [] wr).drew, (Kept.refl [] wr).drew.cell hcell (by simp)⟩
        clear HR
        go_region_held3 (fun w' => w'.cell? ⟨bb, off + n, none⟩ = some (.int .i64 z)) (first | exact HD.out.2 | exact z4 | go_keep)
          (first
            | (go_at_call 10; (first | rw [BB.out.1, BB.out.2.1] | rw [BB.out.2.2, BB.out.2.1]); refine (r_set (I1 := AnyT) (I2 := AnyT) HD.out.1 0 p v (by omega) hp hv (fun _ _ => trivial) (fun _ _ => trivial) (by omega)).mono ?_; rintro e w4 ⟨rfl, h4⟩; have z4 := (HK.out.trans (Rb.old h4) (by simp)).cell HC0.out (by simp)))
        have H4 : Hid (_) := h4.mono (show _ ≤ 20 + 48 * (n + 1) by omega)
        clear h4 HD BB
        go_wp2_with fail
        go_roundw
        case rel => exact ⟨n + 1, by go_num, by omega, by omega, _, H4.out⟩
        case measure => simp [intOf]; omega
    · have HT : Hid (_) := Rb.mono HR.out (show _ ≤ 2000 by omega)
      clear HR
      by_cases hx : n < len0
      · have i1 : (n : Int) < (len0 : Int) := by omega
        have i2 : ¬ (n : Int) < 40 := by omega

        go_wp2_with fail
        refine (r_clear (I' := Qt 0) HT.out 1 (by omega) (fun t _ => qt_clear t)).mono ?_
        rintro e w5 ⟨rfl, h5⟩
        have H5 : Hid (_) := h5
        clear h5 HT
        go_wp2_with fail
        go_loopw [8] (fun i wr => ∃ p : Nat, i = .int .i64 (p : Int) ∧ p ≤ 16 ∧ Hid (Rb (Qt p) [(g, box b 0)] w1 wr b g 0 2 256 (2000 + 2 * p) (wd V))) (fun i _ => (16 - intOf i).toNat)
        case atStart => exact ⟨0, rfl, by omega, H5.out⟩
        case round =>
          clear H5
          obtain ⟨p, rfl, hp, HJ⟩ := hrel
          by_cases hlp : p < 16
          · have j0 : (p : Int) < 16 := by omega
            go_wp2_with fail
            refine (r_get (I1 := Qt p) (I2 := Qt (p + 1)) HJ.out 1 p (by omega) hlp (qt_read _ _) (qt_next _ _) (by omega)).mono ?_
            rintro e w6 ⟨rfl, h6⟩
            have H6 : Hid (_) := h6
            clear h6 HJ
            go_wp2_with fail
            go_roundw
            case rel => exact ⟨p + 1, by go_num, by omega, H6.out⟩
            case measure => simp [intOf]; omega
          · have e : p = 16 := by omega
            have j0 : ¬ (p : Int) < 16 := by omega
            have H6 : Hid (Rb (Qt 16) [(g, box b 0)] w1 wr b g 0 2 256 (2000 + 2 * 16) (wd V)) := by have := HJ.out; rw [e] at this; exact this
            clear e HJ
            go_wp2_with fail
            refine (r_pages H6.out 1 (by omega) (fun q _ => qt_read 16 _) (by omega)).mono ?_
            rintro e w7 ⟨u, D, rfl, hu, h7, -⟩
            obtain ⟨ua, uc, rfl⟩ := hu.len
            have H7 : Hid (_) := h7
            clear hu h7 H6
            go_wp2_with (first
              | (go_at_call 9; refine (num _ _).mono ?_; rintro e w' ⟨rfl, rfl⟩))
            refine (r_trace H7.out 1 (by omega) (by omega)).mono ?_
            rintro e w8 ⟨u, t, rfl, hq, hr, hl, hk⟩
            obtain ⟨xa, xc, rfl⟩ := hr.slice
            have H8 : Hid (_ ∧ _ ∧ _ ∧ _) := ⟨hq, hr, hl, hk⟩
            clear hq hr hl hk
            go_wp2_with fail
            refine (words_none H8.out.2.1 (by have := H8.out.2.2.1; omega) H8.out.1.1).mono ?_
            rintro e w9 ⟨rfl, hk⟩
            have H9 : Hid (_) := Rb.still H7.out (H8.out.2.2.2.trans hk (by simp))
            clear hk H8 H7
            go_wp2_with fail
            refine (r_trace H9.out 1 (by omega) (by omega)).mono ?_
            rintro e w10 ⟨u, t, rfl, hq, hr, hl, hk⟩
            obtain ⟨xa, xc, rfl⟩ := hr.slice
            have hpos : 0 < (t 1).length := by have := hq.2; omega
            have H10 : Hid (_) := HK.out.trans ((Rb.old H9.out).trans hk (by simp)) (by simp)
            clear hq hr hl hk H9
            generalize (t 1).length = n1 at *
            have j1 : (0 : Int) < (n1 : Int) := by omega
            go_wp2_with fail
            go_ret
            exact ⟨rfl, H10.out⟩
      · have i1 : ¬ (n : Int) < (len0 : Int) := by omega

        go_wp2_with fail
        refine (r_clear (I' := Qt 0) HT.out 1 (by omega) (fun t _ => qt_clear t)).mono ?_
        rintro e w5 ⟨rfl, h5⟩
        have H5 : Hid (_) := h5
        clear h5 HT
        go_wp2_with fail
        go_loopw [8] (fun i wr => ∃ p : Nat, i = .int .i64 (p : Int) ∧ p ≤ 16 ∧ Hid (Rb (Qt p) [(g, box b 0)] w1 wr b g 0 2 256 (2000 + 2 * p) (wd V))) (fun i _ => (16 - intOf i).toNat)
        case atStart => exact ⟨0, rfl, by omega, H5.out⟩
        case round =>
          clear H5
          obtain ⟨p, rfl, hp, HJ⟩ := hrel
          by_cases hlp : p < 16
          · have j0 : (p : Int) < 16 := by omega
            go_wp2_with fail
            refine (r_get (I1 := Qt p) (I2 := Qt (p + 1)) HJ.out 1 p (by omega) hlp (qt_read _ _) (qt_next _ _) (by omega)).mono ?_
            rintro e w6 ⟨rfl, h6⟩
            have H6 : Hid (_) := h6
            clear h6 HJ
            go_wp2_with fail
            go_roundw
            case rel => exact ⟨p + 1, by go_num, by omega, H6.out⟩
            case measure => simp [intOf]; omega
          · have e : p = 16 := by omega
            have j0 : ¬ (p : Int) < 16 := by omega
            have H6 : Hid (Rb (Qt 16) [(g, box b 0)] w1 wr b g 0 2 256 (2000 + 2 * 16) (wd V)) := by have := HJ.out; rw [e] at this; exact this
            clear e HJ
            go_wp2_with fail
            refine (r_pages H6.out 1 (by omega) (fun q _ => qt_read 16 _) (by omega)).mono ?_
            rintro e w7 ⟨u, D, rfl, hu, h7, -⟩
            obtain ⟨ua, uc, rfl⟩ := hu.len
            have H7 : Hid (_) := h7
            clear hu h7 H6
            go_wp2_with (first
              | (go_at_call 9; refine (num _ _).mono ?_; rintro e w' ⟨rfl, rfl⟩))
            refine (r_trace H7.out 1 (by omega) (by omega)).mono ?_
            rintro e w8 ⟨u, t, rfl, hq, hr, hl, hk⟩
            obtain ⟨xa, xc, rfl⟩ := hr.slice
            have H8 : Hid (_ ∧ _ ∧ _ ∧ _) := ⟨hq, hr, hl, hk⟩
            clear hq hr hl hk
            go_wp2_with fail
            refine (words_none H8.out.2.1 (by have := H8.out.2.2.1; omega) H8.out.1.1).mono ?_
            rintro e w9 ⟨rfl, hk⟩
            have H9 : Hid (_) := Rb.still H7.out (H8.out.2.2.2.trans hk (by simp))
            clear hk H8 H7
            go_wp2_with fail
            refine (r_trace H9.out 1 (by omega) (by omega)).mono ?_
            rintro e w10 ⟨u, t, rfl, hq, hr, hl, hk⟩
            obtain ⟨xa, xc, rfl⟩ := hr.slice
            have hpos : 0 < (t 1).length := by have := hq.2; omega
            have H10 : Hid (_) := HK.out.trans ((Rb.old H9.out).trans hk (by simp)) (by simp)
            clear hq hr hl hk H9
            generalize (t 1).length = n1 at *
            have j1 : (0 : Int) < (n1 : Int) := by omega
            go_wp2_with fail
            go_ret
            exact ⟨rfl, H10.out⟩

theorem walk (a0 : Option Addr) (len0 cap0 : Nat) (z0 : List Int) (w : World) (w0 : IsRow .i64 w a0 len0 cap0 z0) :
    Calls Try.prog 6 #[.slice a0 len0 cap0] w fun e w' => e = .returned (.bool true) ∧ Below w.heap.size w w' := by
  have hlen : len0 ≤ 9223372036854775807 := by
    rcases w0 with ⟨_, h1, _, _⟩ | ⟨x, rfl, hl, hm, hz, hcell, _⟩
    · omega
    · unfold maxLen at hm; omega
  refine (main a0 len0 cap0 z0 w hlen (fun i hi => ?_)).mono fun e w' ⟨he, hk⟩ => ⟨he, hk.below (Nat.le_refl _) (by simp)⟩
  rcases w0 with ⟨_, h1, _, _⟩ | ⟨x, rfl, hl, hm, hz, hcell, _⟩
  · omega
  · obtain ⟨bb, off, rfl, hc⟩ := ints_at hcell (by omega)
    exact ⟨bb, off, rfl, hc i (by omega)⟩

set_option maxRecDepth 100000 in
theorem lifted (os : Os) (started : os.Started) (H : Type) (enc : TypeId × Value → H) :
    ReturnsInHanded {} Try.checked os 6 .any (Rows.radixReadsSpec.pre6 enc Try.prog Try.f6 Rows.radixReadsRow.domain false) (Rows.radixReadsSpec.post enc Try.prog Try.f6 false true false false) := by
  refine returnsInHanded_of_change (C := Try.checked) own started (by kernel_rfl) Try.func6
    (ChangeSpec.witness6 (enc := enc) (C := Try.checked) false ⟨#[], #[.slice none 0 0], []⟩ 8 (by kernel_rfl) (by kernel_rfl) (by kernel_rfl) (by kernel_rfl)) ?_
  intro W base args ds gs before hval0 hW hcnd _
  have hval : ∀ (j : Nat) t v, Try.f6.params[j]? = some t → args[j]? = some v → Value.okWide Try.prog W .any base t v := hval0
  have hW' := hW
  obtain ⟨p, q, hA0, hV, rfl, hfz, hnd⟩ := hW
  have hA : DataW.TrodAll enc Try.prog W 0 (fun _ => true) true Try.f6.params.toList args.toList ds p := hA0
  rw [Try.params6] at hA hval
  obtain ⟨v0, vs0, d0, ds0, p0, q0, hargs, rfl, rfl, h0, r0⟩ := trodAll_cons hA
  obtain ⟨rfl, rfl, rfl⟩ := trodAll_nil r0
  obtain rfl : args = #[v0] := by cases args; simp_all
  obtain ⟨rfl, rfl⟩ := trodVars_none hV
  obtain ⟨a0, len0, cap0, rfl⟩ := okWide_slice Try.underlying31 (hval 0 31 v0 rfl rfl)
  have k0 := h0
  have lt0 : ∀ x ∈ p0, x.block < W.heap.size := by obtain ⟨m, hm⟩ := k0; exact DataW.trod_lt m _ _ _ hm
  obtain ⟨z0, w0⟩ : ∃ zs, IsRow .i64 W a0 len0 cap0 zs := by
    obtain ⟨fuel, hf⟩ := h0
    rcases open_ints Try.underlying31 Try.underlying3 (by kernel_rfl) hf with ⟨hcs, _⟩ | ⟨x, l, c, zs, hcs, _, hl, hm, hz, _, hcell, hwz⟩
    · simp [Value.cells] at hcs
      obtain ⟨rfl, rfl, rfl⟩ := hcs
      exact ⟨[], .inl ⟨rfl, rfl, rfl, rfl⟩⟩
    · simp [Value.cells] at hcs
      obtain ⟨rfl, rfl, rfl⟩ := hcs
      exact ⟨zs, .inr ⟨_, rfl, hl, hm, by simpa using hz, hcell, hwz⟩⟩
  clear hA0 hval0
  refine (walk a0 len0 cap0 z0 W w0).mono fun e W' ⟨he, bel⟩ => ?_
  subst he
  exact ⟨_, rfl, _, _, _, [], _, [], hW', trodAll_mk1 (shut_bool Try.underlying4 _), (trodAll_cons_mk (Below.trod laidOut (by kernel_rfl) (of_decide_eq_true (by kernel_rfl)) k0 bel lt0) trodAll_mk0), rfl, bel.frame _, fun h => by cases h⟩

theorem over : Rows.radixReadsRow.holds Try.pinned (OpenSpec.ofChange Rows.radixReadsSpec) :=
  OpenClaim.holds_of_wide 6 Try.f6 rfl rfl rfl rfl rfl rfl rfl ⟨rfl, rfl, rfl, rfl, rfl⟩ rfl rfl rfl rfl rfl (by kernel_rfl) Try.func6 (by kernel_rfl)
    (of_decide_eq_true (by kernel_rfl)) (by unfold Func.isWrapper; first | (rw [if_pos (by decide +kernel)]; kernel_rfl) | (rw [if_neg (by decide +kernel)]; exact ⟨rfl, rfl⟩))
    (fun os started H enc _ => lifted os started H enc)

end Go.Proofs.Ythndjlcibiaoiaa.radixReads

namespace Go.Proofs.Ythndjlcibiaoiaa
theorem radixReads_holds : Rows.RadixReadsSaid := radixReads.over
#print axioms radixReads_holds
end Go.Proofs.Ythndjlcibiaoiaa
