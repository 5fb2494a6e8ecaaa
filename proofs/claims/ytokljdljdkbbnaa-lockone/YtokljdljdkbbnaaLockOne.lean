/-
  Proved: for every picks, the law LockOne returns true. No condition.
-/
import Derived.Test.YtokljdljdkbbnaaRows
import Derived.Test.YtokljdljdkbbnaaGrow
import Derived.WalkKit
import Derived.ProofKit
import Derived.OpenShut
import Derived.ShutString
import Derived.ChangeOld
import Derived.Below
import Derived.Deep.Slices
namespace Go.Proofs.Ytokljdljdkbbnaa.lockOne
open Go.ChangeShapes Go.WideShapes Go.ChangeAt Go.RowKit
open Go.ChangeMaps (open_string shut_string)
set_option linter.unusedVariables false

theorem own : ownKnob Try.prog.godebug = none := by kernel_rfl
theorem laidOut : laidOutB Try.prog = true := by kernel_rfl

def IsRow (k : IntKind) (w : World) (a : Option Addr) (len cap : Nat) (zs : List Int) : Prop :=
  (a = none ∧ len = 0 ∧ cap = 0 ∧ zs = []) ∨
  ∃ x, a = some x ∧ len ≤ cap ∧ cap ≤ maxLen ∧ zs.length = cap ∧ (∀ i, i < zs.length → w.cell? (x.add i) = some (.int k (zs.getD i 0))) ∧ ∀ n ∈ zs, (Lit.int k n).wf = true

/-- Behind n picks: H holds the lock (-1: none). -/
structure One (n : Nat) (H : Int) (A : Ar) : Prop where
  words : A.words = [H + 1]
  lo : -1 ≤ H
  hi : H ≤ 3
  few : Few 4 (2 * n) A

theorem One.word {n : Nat} {H : Int} {A : Ar} (h : One n H A) : wordAt A.words 0 = H + 1 := by rw [h.words]; rfl

theorem One.len {n : Nat} {H : Int} {A : Ar} (h : One n H A) : A.words.length = 1 := by rw [h.words]; rfl

theorem holds_of (H : Int) (h0 : -1 ≤ H) (h1 : H ≤ 3) : holds 4 (H + 1) = H := by
  unfold holds
  by_cases h : H = -1
  · subst h; rfl
  · rw [if_pos (by omega)]; omega

set_option maxRecDepth 100000 in
set_option maxHeartbeats 8000000 in
theorem walk_none (a : Option Addr) (cap0 : Nat) (w : World) :
    Calls Try.prog 4 #[.slice a 0 cap0] w fun e w' => e = .returned (.bool true) ∧ Kept [] w w' := by
  go_enter Try.func4, Try.ntmps4
  go_wp2_with fail
  refine (awake_any w).mono ?_
  rintro e w1 ⟨rfl, hK⟩
  have HK : Hid (_) := hK
  clear hK
  go_wp2_with fail
  refine (h_new w1 1 4 (by omega) (by omega) (by omega) (by omega)).mono ?_
  rintro e w2 ⟨b, rfl, hm⟩
  have HI : Hid (Kept [] w w2) := HK.out.trans hm.1 (by simp)
  clear hm
  go_wp2_with fail
  go_loopw [5, 6] (fun d i wr => i = .int .i64 0 ∧ Hid (Kept [] w wr)) (fun _ _ _ => 0)
  case atStart => exact ⟨rfl, HI⟩
  case round =>
    obtain ⟨rfl, HR⟩ := hrel
    clear HI
    go_wp2_with (first
      | (go_at_call 8; refine (num _ _).mono ?_; rintro e w' ⟨rfl, rfl⟩))
    go_ret
    exact ⟨rfl, HR.out⟩

set_option maxRecDepth 100000 in
set_option maxHeartbeats 8000000 in
theorem walk_some (bb off len0 cap0 : Nat) (z0 : List Int) (w : World) (hl : len0 ≤ 9223372036854775807) (hc : ∀ i, i < len0 → w.cell? ⟨bb, off + i, none⟩ = some (.int .i64 (wordAt z0 i))) :
    Calls Try.prog 4 #[.slice (some ⟨bb, off, none⟩) len0 cap0] w fun e w' => e = .returned (.bool true) ∧ Kept [] w w' := by
  have HCE : Hid (∀ i, i < len0 → w.cell? ⟨bb, off + i, none⟩ = some (.int .i64 (wordAt z0 i))) := hc
  clear hc
  go_enter Try.func4, Try.ntmps4
  go_wp2_with fail
  refine (awake_any w).mono ?_
  rintro e w1 ⟨rfl, hK⟩
  have HK : Hid (_) := hK
  clear hK
  go_wp2_with fail
  refine (h_new w1 1 4 (by omega) (by omega) (by omega) (by omega)).mono ?_
  rintro e w2 ⟨b, rfl, hm⟩
  have HI : Hid (∃ A, Hs [] w1 w2 b A ∧ One 0 (-1) A) := ⟨_, hm, ⟨rfl, by omega, by omega, Few.fresh 1 4⟩⟩
  clear hm
  go_wp2_with fail
  go_loopw [5, 6] (fun d i wr => ∃ n : Nat, ∃ H : Int, n ≤ len0 ∧ n ≤ 200 ∧ i = .int .i64 (n : Int) ∧ d = .int .i64 H ∧ Hid (∃ A, Hs [] w1 wr b A ∧ One n H A)) (fun _ i _ => (200 - intOf i).toNat)
  case atStart => exact ⟨0, -1, by omega, by omega, rfl, rfl, HI⟩
  case round =>
    obtain ⟨n, H, hn, hn2, rfl, rfl, HR⟩ := hrel
    obtain ⟨A, hm, hT⟩ := HR.out
    have hlo := hT.lo
    have hhi := hT.hi
    have HT : Hid (One n H A) := hT
    clear hT HR HI
    by_cases hlt : n < len0 ∧ n < 200
    · obtain ⟨hlt, hlt2⟩ := hlt
      have hcell : wr.cell? ⟨bb, off + n, none⟩ = some (.int .i64 (wordAt z0 n)) := (HK.out.trans hm.1 (by simp)).cell (HCE.out n hlt) (by simp)
      have i0 : (0 : Int) ≤ (n : Int) := by omega
      have i1 : (n : Int) < (len0 : Int) := by omega
      obtain ⟨m, hm4, b3⟩ : ∃ m : Nat, m < 4 ∧ bits .and .i64 (wordAt z0 n) 3 = (m : Int) := ⟨(wordAt z0 n % 4).toNat, by omega, by rw [i64_and3]; omega⟩
      have q1 : (A.traces.getD (m : Int).toNat []).length < 999999 := by have := HT.out.few.many m; rw [show (m : Int).toNat = m from rfl]; omega
      have q2 : (m : Int) < (A.traces.length : Int) := by rw [HT.out.few.cores]; omega
      have q3 : (0 : Int) < (A.words.length : Int) := by rw [HT.out.len]; omega
      have HM : Hid (_ ∧ _ ∧ _ ∧ _) := ⟨hm, q1, q2, q3⟩
      clear hm q1 q2 q3
      obtain ⟨q, hq⟩ : ∃ q, bits .and .i64 (wordAt z0 n) 4 = q := ⟨_, rfl⟩
      by_cases h4 : q = 4
      · subst h4
        by_cases hH : H = (m : Int)
        · subst hH
          go_wp2_with fail
          refine (unlock_yes HM.out.1 (m : Int) 0 (by omega) HM.out.2.2.1 (by omega) HM.out.2.2.2 HM.out.2.1 HT.out.word).mono ?_
          rintro e w4 ⟨rfl, hm5⟩
          have HN : Hid (Hs [] w1 w4 b ((A.touch m 0 none).touch m 0 (some 0)) ∧ One (n + 1) (-1) ((A.touch m 0 none).touch m 0 (some 0))) := ⟨hm5, ⟨by rw [touch_words, touch_words0, HT.out.words]; rfl, by omega, by omega, (((HT.out.few.touch m 0 none hm4).touch m 0 (some 0) hm4)).mono (by omega)⟩⟩
          clear hm5
          go_wp2_with (first
            | (go_at_call 8; refine (num _ _).mono ?_; rintro e w' ⟨rfl, rfl⟩))
          go_roundw
          case rel => exact ⟨n + 1, -1, by omega, by omega, by go_num, rfl, ⟨_, HN.out⟩⟩
          case measure => simp [intOf]; omega
        · have t1 : (H == (m : Int)) = false := by simp [hH]
          go_wp2_with fail
          refine (unlock_no HM.out.1 (m : Int) 0 (by omega) HM.out.2.2.1 (by omega) HM.out.2.2.2 (Nat.lt_trans HM.out.2.1 (by omega)) (by rw [show (0 : Int).toNat = 0 from rfl, HT.out.word]; omega)).mono ?_
          rintro e w4 ⟨rfl, hm5⟩
          have HN : Hid (Hs [] w1 w4 b (A.touch m 0 none) ∧ One (n + 1) H (A.touch m 0 none)) := ⟨hm5, ⟨by rw [touch_words0, HT.out.words], hlo, hhi, (HT.out.few.touch m 0 none hm4).mono (by omega)⟩⟩
          clear hm5 hH
          go_wp2_with (first
            | (go_at_call 8; refine (num _ _).mono ?_; rintro e w' ⟨rfl, rfl⟩))
          go_roundw
          case rel => exact ⟨n + 1, H, by omega, by omega, by go_num, rfl, ⟨_, HN.out⟩⟩
          case measure => simp [intOf]; omega
      · have t4 : (q == 4) = false := by simp [h4]
        clear h4
        by_cases hH : H = -1
        · subst hH
          go_wp2_with fail
          refine (try_yes HM.out.1 (m : Int) 0 (by omega) HM.out.2.2.1 (by omega) HM.out.2.2.2 (Nat.lt_trans HM.out.2.1 (by omega)) HT.out.word).mono ?_
          rintro e w4 ⟨rfl, hm5⟩
          have HN : Hid (Hs [] w1 w4 b (A.touch m 0 (some ((m : Int) + 1))) ∧ One (n + 1) (m : Int) (A.touch m 0 (some ((m : Int) + 1))) ∧ Few 4 (2 * n + 1) (A.touch m 0 (some ((m : Int) + 1)))) := ⟨hm5, ⟨by rw [touch_words, HT.out.words]; rfl, by omega, by omega, (HT.out.few.touch m 0 (some ((m : Int) + 1)) hm4).mono (by omega)⟩, HT.out.few.touch m 0 (some ((m : Int) + 1)) hm4⟩
          generalize A.touch m 0 (some ((m : Int) + 1)) = A1 at HN
          clear hm5 HM HT
          go_wp2_with fail
          refine (num _ _).mono ?_
          rintro e w' ⟨rfl, rfl⟩
          go_wp2_with fail
          refine (holder_any HN.out.1 (m : Int) 0 (by omega) (by rw [HN.out.2.1.few.cores]; omega) (by omega) (by rw [HN.out.2.1.len]; omega) (by have := HN.out.2.1.few.many m; rw [show (m : Int).toNat = m from rfl]; omega)).mono ?_
          rintro e w5 ⟨rfl, hm6⟩
          rw [show holds A1.traces.length (wordAt A1.words (0 : Int).toNat) = (m : Int) from by rw [HN.out.2.1.few.cores, show (0 : Int).toNat = 0 from rfl, HN.out.2.1.word]; exact holds_of _ (by omega) (by omega)]
          have HN2 : Hid (Hs [] w1 w5 b (A1.touch m 0 none) ∧ One (n + 1) (m : Int) (A1.touch m 0 none)) := ⟨hm6, ⟨by rw [touch_words0, HN.out.2.1.words], by omega, by omega, (HN.out.2.2.touch m 0 none hm4).mono (by omega)⟩⟩
          clear hm6 HN
          go_wp2_with (first
            | (go_at_call 8; refine (num _ _).mono ?_; rintro e w' ⟨rfl, rfl⟩))
          go_roundw
          case rel => exact ⟨n + 1, (m : Int), by omega, by omega, by go_num, rfl, ⟨_, HN2.out⟩⟩
          case measure => simp [intOf]; omega
        · have t1 : ¬ H < 0 := by omega
          clear hH
          go_wp2_with fail
          refine (try_no HM.out.1 (m : Int) 0 (by omega) HM.out.2.2.1 (by omega) HM.out.2.2.2 (Nat.lt_trans HM.out.2.1 (by omega)) (by rw [show (0 : Int).toNat = 0 from rfl, HT.out.word]; omega)).mono ?_
          rintro e w4 ⟨rfl, hm5⟩
          have HN : Hid (Hs [] w1 w4 b (A.touch m 0 none) ∧ One (n + 1) H (A.touch m 0 none) ∧ Few 4 (2 * n + 1) (A.touch m 0 none)) := ⟨hm5, ⟨by rw [touch_words0, HT.out.words], by omega, by omega, (HT.out.few.touch m 0 none hm4).mono (by omega)⟩, HT.out.few.touch m 0 none hm4⟩
          generalize A.touch m 0 none = A1 at HN
          clear hm5 HM HT
          go_wp2_with fail
          refine (num _ _).mono ?_
          rintro e w' ⟨rfl, rfl⟩
          go_wp2_with fail
          refine (holder_any HN.out.1 (m : Int) 0 (by omega) (by rw [HN.out.2.1.few.cores]; omega) (by omega) (by rw [HN.out.2.1.len]; omega) (by have := HN.out.2.1.few.many m; rw [show (m : Int).toNat = m from rfl]; omega)).mono ?_
          rintro e w5 ⟨rfl, hm6⟩
          rw [show holds A1.traces.length (wordAt A1.words (0 : Int).toNat) = H from by rw [HN.out.2.1.few.cores, show (0 : Int).toNat = 0 from rfl, HN.out.2.1.word]; exact holds_of _ (by omega) (by omega)]
          have HN2 : Hid (Hs [] w1 w5 b (A1.touch m 0 none) ∧ One (n + 1) H (A1.touch m 0 none)) := ⟨hm6, ⟨by rw [touch_words0, HN.out.2.1.words], by omega, by omega, (HN.out.2.2.touch m 0 none hm4).mono (by omega)⟩⟩
          clear hm6 HN
          go_wp2_with (first
            | (go_at_call 8; refine (num _ _).mono ?_; rintro e w' ⟨rfl, rfl⟩))
          go_roundw
          case rel => exact ⟨n + 1, H, by omega, by omega, by go_num, rfl, ⟨_, HN2.out⟩⟩
          case measure => simp [intOf]; omega
    · have HF : Hid (Kept [] w wr) := HK.out.trans hm.1 (by simp)
      clear hm HT
      by_cases hx : n < len0
      · have i1 : (n : Int) < (len0 : Int) := by omega
        have i2 : ¬ (n : Int) < 200 := by omega
        go_wp2_with (first
          | (go_at_call 8; refine (num _ _).mono ?_; rintro e w' ⟨rfl, rfl⟩))
        go_ret
        exact ⟨rfl, HF.out⟩
      · have i1 : ¬ (n : Int) < (len0 : Int) := by omega
        go_wp2_with (first
          | (go_at_call 8; refine (num _ _).mono ?_; rintro e w' ⟨rfl, rfl⟩))
        go_ret
        exact ⟨rfl, HF.out⟩

theorem walk (a0 : Option Addr) (len0 cap0 : Nat) (z0 : List Int) (w : World) (w0 : IsRow .i64 w a0 len0 cap0 z0) :
    Calls Try.prog 4 #[.slice a0 len0 cap0] w fun e w' => e = .returned (.bool true) ∧ Below w.heap.size w w' := by
  by_cases h0 : len0 = 0
  · subst h0
    exact (walk_none a0 cap0 w).mono fun e w' ⟨he, hk⟩ => ⟨he, hk.below (Nat.le_refl _) (by simp)⟩
  · rcases w0 with ⟨_, h1, _, _⟩ | ⟨x, rfl, hl, hm, hz, hcell, _⟩
    · exact absurd h1 h0
    · obtain ⟨bb, off, rfl, hc⟩ := ints_at hcell (by omega)
      refine (walk_some bb off len0 cap0 z0 w (by unfold maxLen at hm; omega) (fun i hi => ?_)).mono fun e w' ⟨he, hk⟩ => ⟨he, hk.below (Nat.le_refl _) (by simp)⟩
      exact hc i (by omega)

set_option maxRecDepth 100000 in
theorem lifted (os : Os) (started : os.Started) (H : Type) (enc : TypeId × Value → H) :
    ReturnsInHanded {} Try.checked os 4 .any (Rows.lockOneSpec.pre6 enc Try.prog Try.f4 Rows.lockOneRow.domain false) (Rows.lockOneSpec.post enc Try.prog Try.f4 false true false false) := by
  refine returnsInHanded_of_change (C := Try.checked) own started (by kernel_rfl) Try.func4
    (ChangeSpec.witness6 (enc := enc) (C := Try.checked) false ⟨#[], #[.slice none 0 0], []⟩ 8 (by kernel_rfl) (by kernel_rfl) (by kernel_rfl) (by kernel_rfl)) ?_
  intro W base args ds gs before hval0 hW hcnd _
  have hval : ∀ (j : Nat) t v, Try.f4.params[j]? = some t → args[j]? = some v → Value.okWide Try.prog W .any base t v := hval0
  have hW' := hW
  obtain ⟨p, q, hA0, hV, rfl, hfz, hnd⟩ := hW
  have hA : DataW.TrodAll enc Try.prog W 0 (fun _ => true) true Try.f4.params.toList args.toList ds p := hA0
  rw [Try.params4] at hA hval
  obtain ⟨v0, vs0, d0, ds0, p0, q0, hargs, rfl, rfl, h0, r0⟩ := trodAll_cons hA
  obtain ⟨rfl, rfl, rfl⟩ := trodAll_nil r0
  obtain rfl : args = #[v0] := by cases args; simp_all
  obtain ⟨rfl, rfl⟩ := trodVars_none hV
  obtain ⟨a0, len0, cap0, rfl⟩ := okWide_slice Try.underlying28 (hval 0 28 v0 rfl rfl)
  have k0 := h0
  have lt0 : ∀ x ∈ p0, x.block < W.heap.size := by obtain ⟨m, hm⟩ := k0; exact DataW.trod_lt m _ _ _ hm
  obtain ⟨z0, w0⟩ : ∃ zs, IsRow .i64 W a0 len0 cap0 zs := by
    obtain ⟨fuel, hf⟩ := h0
    rcases open_ints Try.underlying28 Try.underlying3 (by kernel_rfl) hf with ⟨hcs, _⟩ | ⟨x, l, c, zs, hcs, _, hl, hm, hz, _, hcell, hwz⟩
    · simp [Value.cells] at hcs
      obtain ⟨rfl, rfl, rfl⟩ := hcs
      exact ⟨[], .inl ⟨rfl, rfl, rfl, rfl⟩⟩
    · simp [Value.cells] at hcs
      obtain ⟨rfl, rfl, rfl⟩ := hcs
      exact ⟨zs, .inr ⟨_, rfl, hl, hm, by simpa using hz, hcell, hwz⟩⟩
  clear hA0 hval0
  refine (walk a0 len0 cap0 z0 W w0).mono fun e W' ⟨he, bel⟩ => ?_
  subst he
  exact ⟨_, rfl, _, _, _, [], _, [], hW', trodAll_mk1 (shut_bool Try.underlying4 _), (trodAll_cons_mk (Below.trod laidOut (by kernel_rfl) (of_decide_eq_true (by kernel_rfl)) k0 bel lt0) trodAll_mk0), rfl, bel.frame _, fun h => by cases h⟩

theorem over : Rows.lockOneRow.holds Try.pinned (OpenSpec.ofChange Rows.lockOneSpec) :=
  OpenClaim.holds_of_wide 4 Try.f4 rfl rfl rfl rfl rfl rfl rfl ⟨rfl, rfl, rfl, rfl, rfl⟩ rfl rfl rfl rfl rfl (by kernel_rfl) Try.func4 (by kernel_rfl)
    (of_decide_eq_true (by kernel_rfl)) (by unfold Func.isWrapper; first | (rw [if_pos (by decide +kernel)]; kernel_rfl) | (rw [if_neg (by decide +kernel)]; exact ⟨rfl, rfl⟩))
    (fun os started H enc _ => lifted os started H enc)

end Go.Proofs.Ytokljdljdkbbnaa.lockOne

namespace Go.Proofs.Ytokljdljdkbbnaa
theorem lockOne_holds : Rows.LockOneSaid := lockOne.over
#print axioms lockOne_holds
end Go.Proofs.Ytokljdljdkbbnaa
