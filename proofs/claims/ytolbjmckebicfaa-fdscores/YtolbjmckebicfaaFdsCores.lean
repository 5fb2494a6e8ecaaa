/-
  FdsCores returns true for every slice of ints and every int: what one core opens and closes turns nothing of another's.
-/
import Derived.Test.YtolbjmckebicfaaRows
import Derived.Test.YtolbjmckebicfaaFl
import Derived.Test.YtolbjmckebicfaaBits
import Derived.WalkKit
import Derived.ProofKit
import Derived.OpenShut
import Derived.ShutString
import Derived.ChangeOld
import Derived.Below
import Derived.Deep.Slices
import Derived.SizedLaws
namespace Go.Proofs.Ytolbjmckebicfaa.fdsCores
open Go.ChangeShapes Go.WideShapes Go.ChangeAt Go.RowKit
open Go.ChangeMaps (open_string shut_string)
set_option linter.unusedVariables false

theorem own : ownKnob Try.prog.godebug = none := by kernel_rfl
theorem laidOut : laidOutB Try.prog = true := by kernel_rfl

def IsRow (k : IntKind) (w : World) (a : Option Addr) (len cap : Nat) (zs : List Int) : Prop :=
  (a = none ∧ len = 0 ∧ cap = 0 ∧ zs = []) ∨
  ∃ x, a = some x ∧ len ≤ cap ∧ cap ≤ maxLen ∧ zs.length = cap ∧ (∀ i, i < zs.length → w.cell? (x.add i) = some (.int k (zs.getD i 0))) ∧ ∀ n ∈ zs, (Lit.int k n).wf = true

theorem i64_and1023 (n : Int) : bits .and .i64 n 1023 = n % 1024 := by
  have h1 : (BitVec.ofInt 64 1023).toNat = 2 ^ 10 - 1 := by decide
  have key : (BitVec.ofInt 64 n &&& BitVec.ofInt 64 1023).toNat = (n % ((2 ^ 64 : Nat) : Int)).toNat % 2 ^ 10 := by
    rw [BitVec.toNat_and, BitVec.toNat_ofInt, h1, Nat.and_two_pow_sub_one_eq_mod]
  show IntKind.i64.wrap ((BitVec.ofInt 64 n &&& BitVec.ofInt 64 1023).toNat : Nat) = n % 1024
  rw [key, IntKind.wrap_i64]
  omega

/-- What core 0 has stays: one descriptor, for v. -/
def Keeps (v : Nat) (W : Nat → Nat → Int) : Prop := W 0 0 = (v : Int) ∧ W 0 1 = 0 ∧ W 0 2 = 0 ∧ W 0 3 = 0

theorem keeps_upd {v : Nat} {W : Nat → Nat → Int} (h : Keeps v W) (d : Nat) (x : Int) : Keeps v (upd W 1 d x) := by
  unfold Keeps upd
  simp only [show ¬ (0 = 1 ∧ 0 = d) by omega, show ¬ (0 = 1 ∧ 1 = d) by omega, show ¬ (0 = 1 ∧ 2 = d) by omega, show ¬ (0 = 1 ∧ 3 = d) by omega, if_false]
  exact h

theorem keeps_list {v : Nat} {W : Nat → Nat → Int} (h : Keeps v W) (hv : 1 ≤ v) : (dl 0 (W 0) 4).length = 1 := by
  obtain ⟨h0, h1, h2, h3⟩ := h
  rw [dl_no h3, dl_no h2, dl_no h1, dl_yes (by rw [h0]; omega)]
  rfl

/-- Open by core 1, whatever comes of it. -/
theorem open_any {I : Trc → Prop} {S : List (Nat × Obj)} {w0 w : World} {b g f k L N : Nat} {W : Nat → Nat → Int} (h : Fb I S w0 w b g f k L N W) (c : Nat) (x : Int) (hc : c < k) (hN : N < 900000) :
    Calls Try.prog 10 #[.pointer (some ⟨g, 0, none⟩), .int .i64 (c : Int), .int .i64 x] w fun e w' => ∃ p q, e = .returned (.tuple #[.int .i64 p, .int .i64 q]) ∧ ∃ W', Fb I S w0 w' b g f k L (N + 5) W' ∧ (W' = W ∨ ∃ d, W' = upd W c d x) := by
  by_cases hx : x < 1
  · refine (d_open_form h c x hc hx).mono ?_
    rintro e w' ⟨rfl, rfl⟩
    exact ⟨_, _, rfl, W, h.mono (by omega), Or.inl rfl⟩
  · by_cases hf : ∃ d, d < 4 ∧ W c d = 0 ∧ ∀ j, j < d → W c j ≠ 0
    · obtain ⟨d, hd, h0, h1⟩ := hf
      refine (d_open h c x hc (by omega) d hd h0 h1 (by omega)).mono ?_
      rintro e w' ⟨rfl, h2⟩
      exact ⟨_, _, rfl, _, h2, Or.inr ⟨d, rfl⟩⟩
    · have hz : ∀ d, d < 4 → W c d ≠ 0 := by
        intro d
        induction d using Nat.strongRecOn with
        | _ d ih => intro hd e; exact hf ⟨d, hd, e, fun j hj => ih j hj (by omega)⟩
      refine (d_open_full h c x hc (by omega) hz (by omega)).mono ?_
      rintro e w' ⟨rfl, h2⟩
      exact ⟨_, _, rfl, W, h2.mono (by omega), Or.inl rfl⟩

/-- Close by core 1, whatever comes of it. -/
theorem close_any {I : Trc → Prop} {S : List (Nat × Obj)} {w0 w : World} {b g f k L N : Nat} {W : Nat → Nat → Int} (h : Fb I S w0 w b g f k L N W) (c : Nat) (x : Int) (hc : c < k) (hN : N < 900000) :
    Calls Try.prog 11 #[.pointer (some ⟨g, 0, none⟩), .int .i64 (c : Int), .int .i64 x] w fun e w' => ∃ q, e = .returned (.int .i64 q) ∧ ∃ W', Fb I S w0 w' b g f k L (N + 5) W' ∧ (W' = W ∨ ∃ d, W' = upd W c d 0) := by
  by_cases hx : val W c x = 0
  · refine (d_close_none h c x hc hx (by omega)).mono ?_
    rintro e w' ⟨rfl, h2⟩
    exact ⟨_, rfl, W, h2.mono (by omega), Or.inl rfl⟩
  · have hx4 : 0 ≤ x ∧ x < 4 := by
      refine Decidable.byContradiction fun h => hx ?_
      unfold val
      rw [if_neg h]
    obtain ⟨d, rfl⟩ := Int.eq_ofNat_of_zero_le hx4.1
    rw [val_nat W c d (by omega)] at hx
    refine (d_close h c d _ rfl hc (by omega) hx (by omega)).mono ?_
    rintro e w' ⟨rfl, h2⟩
    exact ⟨_, rfl, _, h2.mono (by omega), Or.inr ⟨d, rfl⟩⟩

set_option maxRecDepth 100000 in
set_option maxHeartbeats 8000000 in
theorem main (a0 : Option Addr) (len0 cap0 : Nat) (z0 : List Int) (y : Int) (v : Nat) (w : World) (hv1 : 1 ≤ v) (hy : wrap64 (1 + bits .and .i64 y 1023) = (v : Int)) (hl : len0 ≤ 9223372036854775807) (hc : ∀ i, i < len0 → ∃ bb off, a0 = some ⟨bb, off, none⟩ ∧ w.cell? ⟨bb, off + i, none⟩ = some (.int .i64 (wordAt z0 i))) :
    Calls Try.prog 5 #[.slice a0 len0 cap0, .int .i64 y] w fun e w' => e = .returned (.bool true) ∧ Kept [] w w' := by
  have HC : Hid (_ ∧ _) := ⟨hc, hy⟩
  clear hc hy
  go_enter Try.func5, Try.ntmps5
  go_wp2_with fail
  refine (awake_any w).mono ?_
  rintro e w1 ⟨rfl, hK1⟩
  have HK : Hid (_) := hK1
  clear hK1
  go_wp2_with fail
  refine (h_new w1 8 2 (by omega) (by omega) (by omega) (by omega)).mono ?_
  rintro e w2 ⟨b, rfl, hm⟩
  have H1 : Hid (_) := hm
  clear hm
  go_wp2_with fail
  refine (f_new (I := AnyT) (k := 2) (L := 8) H1.out 0 _ rfl (by omega) (fun _ _ _ _ _ _ _ => trivial) trivial).mono ?_
  rintro e w3 ⟨g, rfl, h3⟩
  have H3 : Hid (_) := h3
  clear h3 H1
  go_wp2_with (first
    | (go_at_call 8; refine (num _ _).mono ?_; rintro e w' ⟨rfl, rfl⟩))
  try rw [HC.out.2]
  refine (d_open H3.out 0 _ (by omega) (by omega) 0 (by omega) rfl (fun j hj => by omega) (by omega)).mono ?_
  rintro e w4 ⟨rfl, h4⟩
  have H4 : Hid (∃ W, Keeps v W ∧ Fb AnyT [(g, box b 0)] w1 w4 b g 0 2 8 (13 + 10 * 0) W) := ⟨_, ⟨rfl, rfl, rfl, rfl⟩, h4⟩
  clear h4 H3
  go_wp2_with fail
  go_loopw [12] (fun i wr => ∃ n : Nat, i = .int .i64 (n : Int) ∧ n ≤ len0 ∧ n ≤ 60 ∧ Hid (∃ W, Keeps v W ∧ Fb AnyT [(g, box b 0)] w1 wr b g 0 2 8 (13 + 10 * n) W)) (fun i _ => (60 - intOf i).toNat)
  case atStart => exact ⟨0, rfl, by omega, by omega, H4.out⟩
  case round =>
    clear H4
    obtain ⟨n, rfl, hn, hn2, HJ⟩ := hrel
    by_cases hlt : n < len0 ∧ n < 60
    · obtain ⟨hlt, hlt2⟩ := hlt
      obtain ⟨W, hW, hF⟩ := HJ.out
      have HF : Hid (_ ∧ _) := ⟨hW, hF⟩
      obtain ⟨bb, off, rfl, hc0⟩ := HC.out.1 n hlt
      have hcell := hF.old.cell (HK.out.cell hc0 (by simp)) (by simp)
      clear hc0 HJ hW hF
      have i1 : (0 : Int) ≤ (n : Int) := by omega
      have i2 : (n : Int) < (len0 : Int) := by omega
      have i3 : (n : Int) < 60 := by omega
      obtain ⟨z, hz⟩ : ∃ z, wordAt z0 n = z := ⟨_, rfl⟩
      rw [hz] at hcell
      clear hz
      by_cases hb : bits .and .i64 z 1 = 0
      · go_wp2_with fail
        refine (open_any HF.out.2 1 _ (by omega) (by omega)).mono ?_
        rintro e w5 ⟨p, q, rfl, W', h5, hW'⟩
        have H5 : Hid (Keeps v W' ∧ Fb AnyT [(g, box b 0)] w1 w5 b g 0 2 8 (13 + 10 * n + 5) W') := ⟨by
          rcases hW' with rfl | ⟨d, rfl⟩
          · exact HF.out.1
          · exact keeps_upd HF.out.1 d _, h5⟩
        clear h5 hW' HF hcell hb
        go_wp2_with fail
        refine (d_get H5.out.2 0 _ (by omega) (by show val W' 0 ((0 : Nat) : Int) ≠ 0; rw [val_nat W' 0 0 (by omega), H5.out.1.1]; omega) (by omega)).mono ?_
        rintro e w6 ⟨rfl, h6⟩
        have HV : Hid (val W' 0 ((0 : Nat) : Int) = (v : Int)) := by show _ = _; rw [val_nat W' 0 0 (by omega), H5.out.1.1]
        rw [show val W' 0 0 = (v : Int) from HV.out]
        have H6 : Hid (_ ∧ _) := ⟨H5.out.1, h6⟩
        clear h6 H5 HV
        go_wp2_with (first
          | (go_at_call 8; refine (num _ _).mono ?_; rintro e w' ⟨rfl, rfl⟩))
        refine (d_list H6.out.2 0 (by omega) (by omega)).mono ?_
        rintro e w7 ⟨u, D, rfl, hu, h7, hd⟩
        have H7 : Hid (Keeps v W' ∧ Fb AnyT [(g, box b 0)] w1 w7 b g 0 2 8 (13 + 10 * (n + 1)) W') := ⟨H6.out.1, (h7.fewer (by simp) (by simp)).mono (by omega)⟩
        obtain ⟨a, cp, hs⟩ := hu.slice
        rw [keeps_list H6.out.1 hv1] at hs
        subst hs
        clear h7 hu hd H6
        go_wp2_with fail
        go_roundw
        case rel => exact ⟨n + 1, by go_num, by omega, by omega, _, H7.out⟩
        case measure => simp [intOf]; omega
      · have hb2 : (bits .and .i64 z 1 == 0) = false := by simpa using hb
        go_wp2_with fail
        refine (close_any HF.out.2 1 _ (by omega) (by omega)).mono ?_
        rintro e w5 ⟨q, rfl, W', h5, hW'⟩
        have H5 : Hid (Keeps v W' ∧ Fb AnyT [(g, box b 0)] w1 w5 b g 0 2 8 (13 + 10 * n + 5) W') := ⟨by
          rcases hW' with rfl | ⟨d, rfl⟩
          · exact HF.out.1
          · exact keeps_upd HF.out.1 d _, h5⟩
        clear h5 hW' HF hcell hb hb2
        go_wp2_with fail
        refine (d_get H5.out.2 0 _ (by omega) (by show val W' 0 ((0 : Nat) : Int) ≠ 0; rw [val_nat W' 0 0 (by omega), H5.out.1.1]; omega) (by omega)).mono ?_
        rintro e w6 ⟨rfl, h6⟩
        have HV : Hid (val W' 0 ((0 : Nat) : Int) = (v : Int)) := by show _ = _; rw [val_nat W' 0 0 (by omega), H5.out.1.1]
        rw [show val W' 0 0 = (v : Int) from HV.out]
        have H6 : Hid (_ ∧ _) := ⟨H5.out.1, h6⟩
        clear h6 H5 HV
        go_wp2_with (first
          | (go_at_call 8; refine (num _ _).mono ?_; rintro e w' ⟨rfl, rfl⟩))
        refine (d_list H6.out.2 0 (by omega) (by omega)).mono ?_
        rintro e w7 ⟨u, D, rfl, hu, h7, hd⟩
        have H7 : Hid (Keeps v W' ∧ Fb AnyT [(g, box b 0)] w1 w7 b g 0 2 8 (13 + 10 * (n + 1)) W') := ⟨H6.out.1, (h7.fewer (by simp) (by simp)).mono (by omega)⟩
        obtain ⟨a, cp, hs⟩ := hu.slice
        rw [keeps_list H6.out.1 hv1] at hs
        subst hs
        clear h7 hu hd H6
        go_wp2_with fail
        go_roundw
        case rel => exact ⟨n + 1, by go_num, by omega, by omega, _, H7.out⟩
        case measure => simp [intOf]; omega
    · have i4 : (n : Int) < (len0 : Int) → ¬ (n : Int) < 60 := by omega
      have H6 : Hid (Kept [] w1 wr) := by obtain ⟨W, hW, hF⟩ := HJ.out; exact hF.old
      clear HJ
      by_cases hlt1 : n < len0
      · have i5 : (n : Int) < (len0 : Int) := by omega
        have i6 : ¬ (n : Int) < 60 := by omega
        clear i4
        go_wp2_with (first
          | (go_at_call 8; refine (num _ _).mono ?_; rintro e w' ⟨rfl, rfl⟩))
        go_ret
        exact ⟨rfl, HK.out.trans H6.out (by simp)⟩
      · have i5 : ¬ (n : Int) < (len0 : Int) := by omega
        clear i4
        go_wp2_with (first
          | (go_at_call 8; refine (num _ _).mono ?_; rintro e w' ⟨rfl, rfl⟩))
        go_ret
        exact ⟨rfl, HK.out.trans H6.out (by simp)⟩

theorem walk (a0 : Option Addr) (len0 cap0 : Nat) (z0 : List Int) (y : Int) (w : World) (w0 : IsRow .i64 w a0 len0 cap0 z0) (_ : (Lit.int .i64 y).wf = true) :
    Calls Try.prog 5 #[.slice a0 len0 cap0, .int .i64 y] w fun e w' => e = .returned (.bool true) ∧ Below w.heap.size w w' := by
  have hlen : len0 ≤ 9223372036854775807 := by
    rcases w0 with ⟨_, h1, _, _⟩ | ⟨x, rfl, hl, hm, hz, hcell, _⟩
    · omega
    · unfold maxLen at hm; omega
  refine (main a0 len0 cap0 z0 y (1 + y % 1024).toNat w (by omega) (by rw [i64_and1023, wrap_small _ (by omega) (by omega)]; omega) hlen (fun i hi => ?_)).mono fun e w' ⟨he, hk⟩ => ⟨he, hk.below (Nat.le_refl _) (by simp)⟩
  rcases w0 with ⟨_, h1, _, _⟩ | ⟨x, rfl, hl, hm, hz, hcell, _⟩
  · omega
  · obtain ⟨bb, off, rfl, hc⟩ := ints_at hcell (by omega)
    exact ⟨bb, off, rfl, hc i (by omega)⟩

set_option maxRecDepth 100000 in
theorem lifted (os : Os) (started : os.Started) (H : Type) (enc : TypeId × Value → H) :
    ReturnsInHanded {} Try.checked os 5 .any (Rows.fdsCoresSpec.pre6 enc Try.prog Try.f5 Rows.fdsCoresRow.domain false) (Rows.fdsCoresSpec.post enc Try.prog Try.f5 false true false false) := by
  refine returnsInHanded_of_change (C := Try.checked) own started (by kernel_rfl) Try.func5
    (ChangeSpec.witness6 (enc := enc) (C := Try.checked) false ⟨#[], #[.slice none 0 0, .int .i64 0], []⟩ 8 (by kernel_rfl) (by kernel_rfl) (by kernel_rfl) (by kernel_rfl)) ?_
  intro W base args ds gs before hval0 hW hcnd _
  have hval : ∀ (j : Nat) t v, Try.f5.params[j]? = some t → args[j]? = some v → Value.okWide Try.prog W .any base t v := hval0
  have hW' := hW
  obtain ⟨p, q, hA0, hV, rfl, hfz, hnd⟩ := hW
  have hA : DataW.TrodAll enc Try.prog W 0 (fun _ => true) true Try.f5.params.toList args.toList ds p := hA0
  rw [Try.params5] at hA hval
  obtain ⟨v0, vs0, d0, ds0, p0, q0, hargs, rfl, rfl, h0, r0⟩ := trodAll_cons hA
  obtain ⟨v1, vs1, d1, ds1, p1, q1, rfl, rfl, rfl, h1, r1⟩ := trodAll_cons r0
  obtain ⟨rfl, rfl, rfl⟩ := trodAll_nil r1
  obtain rfl : args = #[v0, v1] := by cases args; simp_all
  obtain ⟨rfl, rfl⟩ := trodVars_none hV
  obtain ⟨a0, len0, cap0, rfl⟩ := okWide_slice Try.underlying33 (hval 0 33 v0 rfl rfl)
  have k0 := h0
  have lt0 : ∀ x ∈ p0, x.block < W.heap.size := by obtain ⟨m, hm⟩ := k0; exact DataW.trod_lt m _ _ _ hm
  obtain ⟨z0, w0⟩ : ∃ zs, IsRow .i64 W a0 len0 cap0 zs := by
    obtain ⟨fuel, hf⟩ := h0
    rcases open_ints Try.underlying33 Try.underlying3 (by kernel_rfl) hf with ⟨hcs, _⟩ | ⟨x, l, c, zs, hcs, _, hl, hm, hz, _, hcell, hwz⟩
    · simp [Value.cells] at hcs
      obtain ⟨rfl, rfl, rfl⟩ := hcs
      exact ⟨[], .inl ⟨rfl, rfl, rfl, rfl⟩⟩
    · simp [Value.cells] at hcs
      obtain ⟨rfl, rfl, rfl⟩ := hcs
      exact ⟨zs, .inr ⟨_, rfl, hl, hm, by simpa using hz, hcell, hwz⟩⟩
  obtain ⟨a1, rfl, rfl, rfl, w1⟩ := open_int Try.underlying3 (hval 1 3 v1 rfl rfl) h1
  clear hA0 hval0
  refine (walk a0 len0 cap0 z0 a1 W w0 w1).mono fun e W' ⟨he, bel⟩ => ?_
  subst he
  exact ⟨_, rfl, _, _, _, [], _, [], hW', trodAll_mk1 (shut_bool Try.underlying4 _), (trodAll_cons_mk (Below.trod laidOut (by kernel_rfl) (of_decide_eq_true (by kernel_rfl)) k0 bel lt0) (trodAll_cons_mk (shut_int Try.underlying3 w1) trodAll_mk0)), rfl, bel.frame _, fun h => by cases h⟩

theorem over : Rows.fdsCoresRow.holds Try.pinned (OpenSpec.ofChange Rows.fdsCoresSpec) :=
  OpenClaim.holds_of_wide 5 Try.f5 rfl rfl rfl rfl rfl rfl rfl ⟨rfl, rfl, rfl, rfl, rfl⟩ rfl rfl rfl rfl rfl (by kernel_rfl) Try.func5 (by kernel_rfl)
    (of_decide_eq_true (by kernel_rfl)) (by unfold Func.isWrapper; first | (rw [if_pos (by decide +kernel)]; kernel_rfl) | (rw [if_neg (by decide +kernel)]; exact ⟨rfl, rfl⟩))
    (fun os started H enc _ => lifted os started H enc)

end Go.Proofs.Ytolbjmckebicfaa.fdsCores

namespace Go.Proofs.Ytolbjmckebicfaa
theorem fdsCores_holds : Rows.FdsCoresSaid := fdsCores.over
#print axioms fdsCores_holds
end Go.Proofs.Ytolbjmckebicfaa
