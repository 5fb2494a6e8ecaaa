/-
  Whatever the row of cores, no number is given twice, and each tells whose it is.
-/
import Derived.Test.YtdhmhghffmpipaaRows
import Derived.Test.YtdhmhghffmpipaaIb
import Derived.Test.YtdhmhghffmpipaaBits
import Derived.WalkKit
import Derived.ProofKit
import Derived.OpenShut
import Derived.ShutString
import Derived.ChangeOld
import Derived.Below
import Derived.Deep.Slices
import Derived.SizedLaws
namespace Go.Proofs.Ytdhmhghffmpipaa.inumOnce
open Go.ChangeShapes Go.WideShapes Go.ChangeAt Go.RowKit
open Go.ChangeMaps (open_string shut_string)
set_option linter.unusedVariables false

theorem own : ownKnob Try.prog.godebug = none := by kernel_rfl
theorem laidOut : laidOutB Try.prog = true := by kernel_rfl

def IsRow (k : IntKind) (w : World) (a : Option Addr) (len cap : Nat) (zs : List Int) : Prop :=
  (a = none ∧ len = 0 ∧ cap = 0 ∧ zs = []) ∨
  ∃ x, a = some x ∧ len ≤ cap ∧ cap ≤ maxLen ∧ zs.length = cap ∧ (∀ i, i < zs.length → w.cell? (x.add i) = some (.int k (zs.getD i 0))) ∧ ∀ n ∈ zs, (Lit.int k n).wf = true

set_option maxRecDepth 100000 in
set_option maxHeartbeats 8000000 in
theorem main (a0 : Option Addr) (len0 cap0 : Nat) (z0 : List Int) (y : Int) (kk : Nat) (w : World) (hkk : kk < 16) (hy : bits .and .i64 y 15 = (kk : Int)) (hl : len0 ≤ 9223372036854775807) (hc : ∀ i, i < len0 → ∃ bb off, a0 = some ⟨bb, off, none⟩ ∧ w.cell? ⟨bb, off + i, none⟩ = some (.int .i64 (wordAt z0 i))) :
    Calls Try.prog 6 #[.slice a0 len0 cap0, .int .i64 y] w fun e w' => e = .returned (.bool true) ∧ Kept [] w w' := by
  have HCE : Hid (_ ∧ _) := ⟨hc, hy⟩
  clear hc hy
  obtain ⟨rz, hrz⟩ : ∃ rz, rz = rowF 258 (seenV fun _ => 0) := ⟨_, rfl⟩
  have hmk := make_seen
  rw [← hrz] at hmk
  have HZ : Hid (_) := hrz
  clear hrz
  go_enter Try.func6, Try.ntmps6
  go_wp2_with fail
  refine (awake_any w).mono ?_
  rintro e w1 ⟨rfl, hK1⟩
  have HK : Hid (_) := hK1
  clear hK1
  go_wp2_with fail
  rw [HCE.out.2]
  try rw [wrap_small ((kk : Int) + 8) (by omega) (by omega)]
  refine (h_new w1 ((kk : Int) + 8) 8 (by omega) (by omega) (by omega) (by omega)).mono ?_
  rintro e w2 ⟨b, rfl, hm⟩
  rw [show ((kk : Int) + 8).toNat = kk + 8 by omega] at hm
  have H1 : Hid (_) := hm
  clear hm
  go_wp2_with fail
  refine (f_new (I := AnyT) (k := 8) (L := kk + 8) H1.out kk _ rfl (by omega) (fun _ _ _ => trivial) trivial).mono ?_
  rintro e w3 ⟨g, rfl, h3⟩
  have hlt3 := h3.lt (g, box b kk) (by simp)
  have h4 := h3.push (.cells rz 4 (0, 0))
  have hne : ∀ x ∈ [(g, box b kk)], x.1 ≠ w3.heap.size := by
    intro x hx
    rw [List.mem_singleton] at hx
    subst hx
    simp only at hlt3 ⊢
    omega
  obtain ⟨gs, hgs⟩ : ∃ gs, gs = w3.heap.size := ⟨_, rfl⟩
  obtain ⟨W, hW⟩ : ∃ W, W = w3.alloc (.cells rz 4 (0, 0)) := ⟨_, rfl⟩
  rw [← hW, ← hgs] at h4
  rw [← hgs] at hne
  have HS : Hid (_ ∧ _ ∧ _ ∧ _) := ⟨h4, hne, hgs, hW⟩
  clear h4 hne hlt3 h3 H1 hgs hW
  go_wp2_with (first
    | (go_at_call 9; refine (num _ _).mono ?_; rintro e w' ⟨rfl, rfl⟩))
  rw [← HS.out.2.2.1, ← HS.out.2.2.2]
  have HT : Hid (_ ∧ _) := ⟨HS.out.1, HS.out.2.1⟩
  rw [HZ.out] at HT
  clear HS hmk
  clear HZ
  go_loopw [11] (fun i wr => ∃ n : Nat, i = .int .i64 (n : Int) ∧ n ≤ len0 ∧ n ≤ 100 ∧ Hid (∃ m : Nat → Nat, (∀ d, m d ≤ 32) ∧ Nb AnyT [(gs, .cells (rowF 258 (seenV m)) 4 (0, 0)), (g, box b kk)] w1 wr b g kk 8 (kk + 8) (8 + 2 * n) (fun d => ((m d : Nat) : Int)))) (fun i _ => (100 - intOf i).toNat)
  case atStart => exact ⟨0, rfl, by omega, by omega, fun _ => 0, fun _ => Nat.zero_le _, HT.out.1⟩
  case round =>
    obtain ⟨n, rfl, hn, hn2, HJ⟩ := hrel
    have HE : Hid (_) := HT.out.2
    clear HT
    obtain ⟨m, hm, hR⟩ := HJ.out
    have HR : Hid (_ ∧ _) := ⟨hm, hR⟩
    clear HJ hR hm
    by_cases hlt : n < len0 ∧ n < 100
    · obtain ⟨hlt, hlt2⟩ := hlt
      obtain ⟨bb, off, rfl, hc0⟩ := HCE.out.1 n hlt
      have hcell := (HK.out.trans (Nb.old HR.out.2) (by simp)).cell hc0 (by simp)
      clear hc0
      have i1 : (0 : Int) ≤ (n : Int) := by omega
      have i2 : (n : Int) < (len0 : Int) := by omega
      have i3 : (n : Int) < 100 := by omega
      obtain ⟨z, hz⟩ : ∃ z, wordAt z0 n = z := ⟨_, rfl⟩
      rw [hz] at hcell
      clear hz
      obtain ⟨c, hcc, b7⟩ : ∃ c : Nat, c < 8 ∧ bits .and .i64 z 7 = (c : Int) := ⟨(z % 8).toNat, by omega, by rw [i64_and7]; omega⟩
      have BB : Hid (_) := b7
      clear b7
      go_wp2_with fail
      rw [BB.out]
      by_cases hful : m c < 32
      · refine (n_next (I1 := AnyT) (I2 := AnyT) HR.out.2 c (by omega) (m c) rfl hful (fun _ _ => trivial) (fun _ _ => trivial) (by omega)).mono ?_
        rintro e w4 ⟨rfl, h4⟩
        rw [more_upd] at h4
        have hco := h4.cell (m := gs) (List.mem_cons_self ..) (rowF_get (seenV m) (show 2 + c + 8 * m c < 258 by omega))
        rw [seenV_new m hcc] at hco
        have hfz := h4.frozen (m := gs) (List.mem_cons_self ..) (2 + c + 8 * m c)
        have h5 := h4.put HE.out (by simp) (2 + c + 8 * m c) (.bool true)
        rw [rowF_set, seenV_more m hcc] at h5
        have e1 : (((2 + c + 8 * m c : Nat) : Int) - 2) % 8 = (c : Int) := by omega
        obtain ⟨v, hv⟩ : ∃ v, 2 + c + 8 * m c = v := ⟨_, rfl⟩
        have v2 : 2 ≤ v := by omega
        have v3 : v < 258 := by omega
        rw [hv] at hco hfz h5 e1 ⊢
        have H5 : Hid (_ ∧ _ ∧ _) := ⟨h5, more_le HR.out.1 hful, e1⟩
        clear h4 h5 e1 HR hful hv
        have j0 : (0 : Int) ≤ (v : Int) := by omega
        have j1 : (v : Int) < 258 := by omega
        have j2 : ¬ (v : Int) < 2 := by omega
        have j3 : decide ((v : Int) < 2) = false := by simp only [decide_eq_false_iff_not]; omega
        have j4 : ¬ 258 ≤ (v : Int) := by omega
        have j5 : decide (258 ≤ (v : Int)) = false := by simp only [decide_eq_false_iff_not]; omega
        go_wp2_with (first
          | (go_at_call 9; refine (num _ _).mono ?_; rintro e w' ⟨rfl, rfl⟩))
        refine (n_core _ _ (by omega) (by omega)).mono ?_
        rintro e w' ⟨rfl, rfl⟩
        rw [H5.out.2.2]
        go_wp2_with fail
        go_roundw
        case rel => exact ⟨n + 1, by go_num, by omega, by omega, _, H5.out.2.1, H5.out.1⟩
        case measure => simp [intOf]; omega
      · refine (n_next_full (I' := AnyT) HR.out.2 c (by omega) (by have := HR.out.1 c; omega) (fun _ _ => trivial) (by omega)).mono ?_
        rintro e w4 ⟨rfl, h4⟩
        have H5 : Hid (_ ∧ _) := ⟨Nb.mono h4 (show 8 + 2 * n + 1 ≤ 8 + 2 * (n + 1) by omega), HR.out.1⟩
        clear h4 HR
        go_wp2_with (first
          | (go_at_call 9; refine (num _ _).mono ?_; rintro e w' ⟨rfl, rfl⟩))
        go_roundw
        case rel => exact ⟨n + 1, by go_num, by omega, by omega, _, H5.out.2, H5.out.1⟩
        case measure => simp [intOf]; omega
    · have HT : Hid (_) := HR.out.2
      clear HR
      by_cases hx : n < len0
      · have i1 : (n : Int) < (len0 : Int) := by omega
        have i2 : ¬ (n : Int) < 100 := by omega
        go_wp2_with fail
        refine (b_new HT.out _ (by omega) (by omega) (by omega)).mono ?_
        rintro e w5 ⟨rfl, rfl⟩
        have H6 : Hid (_) := HK.out.trans (Nb.old HT.out) (by simp)
        clear HT
        go_wp2_with fail
        refine (n_new_nil _ 0).mono ?_
        rintro e w6 ⟨rfl, rfl⟩
        go_wp2_with (first
          | (go_at_call 9; refine (num _ _).mono ?_; rintro e w' ⟨rfl, rfl⟩))
        go_ret
        exact ⟨rfl, H6.out⟩
      · have i1 : ¬ (n : Int) < (len0 : Int) := by omega
        go_wp2_with fail
        refine (b_new HT.out _ (by omega) (by omega) (by omega)).mono ?_
        rintro e w5 ⟨rfl, rfl⟩
        have H6 : Hid (_) := HK.out.trans (Nb.old HT.out) (by simp)
        clear HT
        go_wp2_with fail
        refine (n_new_nil _ 0).mono ?_
        rintro e w6 ⟨rfl, rfl⟩
        go_wp2_with (first
          | (go_at_call 9; refine (num _ _).mono ?_; rintro e w' ⟨rfl, rfl⟩))
        go_ret
        exact ⟨rfl, H6.out⟩

theorem walk (a0 : Option Addr) (len0 cap0 : Nat) (z0 : List Int) (y : Int) (w : World) (w0 : IsRow .i64 w a0 len0 cap0 z0) (_ : (Lit.int .i64 y).wf = true) :
    Calls Try.prog 6 #[.slice a0 len0 cap0, .int .i64 y] w fun e w' => e = .returned (.bool true) ∧ Below w.heap.size w w' := by
  have hlen : len0 ≤ 9223372036854775807 := by
    rcases w0 with ⟨_, h1, _, _⟩ | ⟨x, rfl, hl, hm, hz, hcell, _⟩
    · omega
    · unfold maxLen at hm; omega
  refine (main a0 len0 cap0 z0 y (y % 16).toNat w (by omega) (by rw [i64_and15]; omega) hlen (fun i hi => ?_)).mono fun e w' ⟨he, hk⟩ => ⟨he, hk.below (Nat.le_refl _) (by simp)⟩
  rcases w0 with ⟨_, h1, _, _⟩ | ⟨x, rfl, hl, hm, hz, hcell, _⟩
  · omega
  · obtain ⟨bb, off, rfl, hc⟩ := ints_at hcell (by omega)
    exact ⟨bb, off, rfl, hc i (by omega)⟩

set_option maxRecDepth 100000 in
theorem lifted (os : Os) (started : os.Started) (H : Type) (enc : TypeId × Value → H) :
    ReturnsInHanded {} Try.checked os 6 .any (Rows.inumOnceSpec.pre6 enc Try.prog Try.f6 Rows.inumOnceRow.domain false) (Rows.inumOnceSpec.post enc Try.prog Try.f6 false true false false) := by
  refine returnsInHanded_of_change (C := Try.checked) own started (by kernel_rfl) Try.func6
    (ChangeSpec.witness6 (enc := enc) (C := Try.checked) false ⟨#[], #[.slice none 0 0, .int .i64 0], []⟩ 8 (by kernel_rfl) (by kernel_rfl) (by kernel_rfl) (by kernel_rfl)) ?_
  intro W base args ds gs before hval0 hW hcnd _
  have hval : ∀ (j : Nat) t v, Try.f6.params[j]? = some t → args[j]? = some v → Value.okWide Try.prog W .any base t v := hval0
  have hW' := hW
  obtain ⟨p, q, hA0, hV, rfl, hfz, hnd⟩ := hW
  have hA : DataW.TrodAll enc Try.prog W 0 (fun _ => true) true Try.f6.params.toList args.toList ds p := hA0
  rw [Try.params6] at hA hval
  obtain ⟨v0, vs0, d0, ds0, p0, q0, hargs, rfl, rfl, h0, r0⟩ := trodAll_cons hA
  obtain ⟨v1, vs1, d1, ds1, p1, q1, rfl, rfl, rfl, h1, r1⟩ := trodAll_cons r0
  obtain ⟨rfl, rfl, rfl⟩ := trodAll_nil r1
  obtain rfl : args = #[v0, v1] := by cases args; simp_all
  obtain ⟨rfl, rfl⟩ := trodVars_none hV
  obtain ⟨a0, len0, cap0, rfl⟩ := okWide_slice Try.underlying22 (hval 0 22 v0 rfl rfl)
  have k0 := h0
  have lt0 : ∀ x ∈ p0, x.block < W.heap.size := by obtain ⟨m, hm⟩ := k0; exact DataW.trod_lt m _ _ _ hm
  obtain ⟨z0, w0⟩ : ∃ zs, IsRow .i64 W a0 len0 cap0 zs := by
    obtain ⟨fuel, hf⟩ := h0
    rcases open_ints Try.underlying22 Try.underlying3 (by kernel_rfl) hf with ⟨hcs, _⟩ | ⟨x, l, c, zs, hcs, _, hl, hm, hz, _, hcell, hwz⟩
    · simp [Value.cells] at hcs
      obtain ⟨rfl, rfl, rfl⟩ := hcs
      exact ⟨[], .inl ⟨rfl, rfl, rfl, rfl⟩⟩
    · simp [Value.cells] at hcs
      obtain ⟨rfl, rfl, rfl⟩ := hcs
      exact ⟨zs, .inr ⟨_, rfl, hl, hm, by simpa using hz, hcell, hwz⟩⟩
  obtain ⟨a1, rfl, rfl, rfl, w1⟩ := open_int Try.underlying3 (hval 1 3 v1 rfl rfl) h1
  clear hA0 hval0
  refine (walk a0 len0 cap0 z0 a1 W w0 w1).mono fun e W' ⟨he, bel⟩ => ?_
  subst he
  exact ⟨_, rfl, _, _, _, [], _, [], hW', trodAll_mk1 (shut_bool Try.underlying4 _), (trodAll_cons_mk (Below.trod laidOut (by kernel_rfl) (of_decide_eq_true (by kernel_rfl)) k0 bel lt0) (trodAll_cons_mk (shut_int Try.underlying3 w1) trodAll_mk0)), rfl, bel.frame _, fun h => by cases h⟩

theorem over : Rows.inumOnceRow.holds Try.pinned (OpenSpec.ofChange Rows.inumOnceSpec) :=
  OpenClaim.holds_of_wide 6 Try.f6 rfl rfl rfl rfl rfl rfl rfl ⟨rfl, rfl, rfl, rfl, rfl⟩ rfl rfl rfl rfl rfl (by kernel_rfl) Try.func6 (by kernel_rfl)
    (of_decide_eq_true (by kernel_rfl)) (by unfold Func.isWrapper; first | (rw [if_pos (by decide +kernel)]; kernel_rfl) | (rw [if_neg (by decide +kernel)]; exact ⟨rfl, rfl⟩))
    (fun os started H enc _ => lifted os started H enc)

end Go.Proofs.Ytdhmhghffmpipaa.inumOnce

namespace Go.Proofs.Ytdhmhghffmpipaa
theorem inumOnce_holds : Rows.InumOnceSaid := inumOnce.over
#print axioms inumOnce_holds
end Go.Proofs.Ytdhmhghffmpipaa
