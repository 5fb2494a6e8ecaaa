/-
  Proved: for every vs, the law ArenaSums returns true. No condition.
-/
import Derived.Test.YtkaijfpenokmbaaRows
import Derived.Test.YtkaijfpenokmbaaFacts
import Derived.WalkKit
import Derived.ProofKit
import Derived.OpenShut
import Derived.ShutString
import Derived.ChangeOld
import Derived.Below
import Derived.Deep.Slices
namespace Go.Proofs.Ytkaijfpenokmbaa.arenaSums
open Go.ChangeShapes Go.WideShapes Go.ChangeAt Go.RowKit
open Go.ChangeMaps (open_string shut_string)
set_option linter.unusedVariables false

theorem own : ownKnob Try.prog.godebug = none := by kernel_rfl
theorem laidOut : laidOutB Try.prog = true := by kernel_rfl

def IsRow (k : IntKind) (w : World) (a : Option Addr) (len cap : Nat) (zs : List Int) : Prop :=
  (a = none ∧ len = 0 ∧ cap = 0 ∧ zs = []) ∨
  ∃ x, a = some x ∧ len ≤ cap ∧ cap ≤ maxLen ∧ zs.length = cap ∧ (∀ i, i < zs.length → w.cell? (x.add i) = some (.int k (zs.getD i 0))) ∧ ∀ n ∈ zs, (Lit.int k n).wf = true

/-- Behind n Adds: the sum, and how many accesses each core has. -/
structure Sum (n : Nat) (s : Int) (A : Ar) : Prop where
  words : A.words = [s]
  cores : A.traces.length = 8
  many : ∀ c, c < 8 → (A.traces.getD c []).length = (n + 7 - c) / 8

theorem Sum.start : Sum 0 0 (fresh 1 8) := ⟨rfl, rfl, fun c hc => by
  have : (fresh 1 8).traces.getD c [] = [] := by
    show (List.replicate 8 ([] : List (Int × Bool))).getD c [] = []
    rw [List.getD, List.getElem?_replicate, if_pos hc]
    rfl
  rw [this]
  simp
  omega⟩

theorem Sum.next {n : Nat} {s : Int} {A : Ar} (h : Sum n s A) (z : Int) : Sum (n + 1) z (A.touch (n % 8) 0 (some z)) where
  words := by rw [touch_words, h.words]; rfl
  cores := by rw [touch_cores]; exact h.cores
  many := fun c hc => by
    rw [touch_trace _ _ _ _ _ (by rw [h.cores]; omega)]
    by_cases e : c = n % 8
    · rw [if_pos e, List.length_append, h.many _ (by omega)]
      simp
      omega
    · rw [if_neg e, h.many c hc]
      omega

set_option maxRecDepth 100000 in
set_option maxHeartbeats 8000000 in
theorem walk_none (a : Option Addr) (cap0 : Nat) (w : World) :
    Calls Try.prog 6 #[.slice a 0 cap0] w fun e w' => e = .returned (.bool true) ∧ Kept [] w w' := by
  go_enter Try.func6, Try.ntmps6
  go_wp2_with fail
  refine (awake_any w).mono ?_
  rintro e w1 ⟨rfl, hK⟩
  have HK : Hid (_) := hK
  clear hK
  go_wp2_with fail
  refine (u_new w1 1 8 (by omega) (by omega) (by omega) (by omega)).mono ?_
  rintro e w2 ⟨b, rfl, hm⟩
  have HI : Hid (∃ A, Has w1 w2 b A ∧ Sum 0 0 A) := ⟨_, hm, Sum.start⟩
  clear hm
  go_wp2_with fail
  go_loopw [5, 6] (fun s i wr => i = .int .i64 0 ∧ wr = w2) (fun _ _ _ => 0)
  case atStart => exact ⟨rfl, rfl⟩
  case round =>
    obtain ⟨rfl, rfl⟩ := hrel
    go_wp2_with (first
      | (go_at_call 10; refine (num _ _).mono ?_; rintro e w' ⟨rfl, rfl⟩))
    go_ret
    obtain ⟨A, hm, -⟩ := HI.out
    exact ⟨rfl, HK.out.trans hm.1 (by simp)⟩

set_option maxRecDepth 100000 in
set_option maxHeartbeats 8000000 in
theorem walk_some (bb off len0 cap0 : Nat) (z0 : List Int) (w : World) (h0 : 0 < len0) (hl : len0 ≤ 9223372036854775807) (hc : ∀ i, i < len0 → w.cell? ⟨bb, off + i, none⟩ = some (.int .i64 (wordAt z0 i))) :
    Calls Try.prog 6 #[.slice (some ⟨bb, off, none⟩) len0 cap0] w fun e w' => e = .returned (.bool true) ∧ Kept [] w w' := by
  have HCE : Hid (∀ i, i < len0 → w.cell? ⟨bb, off + i, none⟩ = some (.int .i64 (wordAt z0 i))) := hc
  clear hc
  go_enter Try.func6, Try.ntmps6
  go_wp2_with fail
  refine (awake_any w).mono ?_
  rintro e w1 ⟨rfl, hK⟩
  have HK : Hid (_) := hK
  clear hK
  go_wp2_with fail
  refine (u_new w1 1 8 (by omega) (by omega) (by omega) (by omega)).mono ?_
  rintro e w2 ⟨b, rfl, hm⟩
  have HI : Hid (∃ A, Has w1 w2 b A ∧ Sum 0 0 A) := ⟨_, hm, Sum.start⟩
  clear hm
  go_wp2_with fail
  go_loopw [5, 6] (fun s i wr => ∃ n : Nat, n ≤ len0 ∧ n ≤ 100 ∧ i = .int .i64 (n : Int) ∧ ∃ z, s = .int .i64 z ∧ Hid (∃ A, Has w1 wr b A ∧ Sum n z A)) (fun _ i _ => (100 - intOf i).toNat)
  case atStart => exact ⟨0, by omega, by omega, rfl, 0, rfl, HI⟩
  case round =>
    obtain ⟨n, hn, hn2, rfl, z, rfl, HR⟩ := hrel
    by_cases hlt : n < len0 ∧ n < 100
    · obtain ⟨hlt, hlt2⟩ := hlt
      obtain ⟨A, hm, hI⟩ := HR.out
      have hcell : wr.cell? ⟨bb, off + n, none⟩ = some (.int .i64 (wordAt z0 n)) := (HK.out.trans hm.1 (by simp)).cell (HCE.out n hlt) (by simp)
      have HM : Hid (_ ∧ _) := ⟨hm, hI⟩
      clear hm hI HR HI
      have i0 : (0 : Int) ≤ (n : Int) := by omega
      have i1 : (n : Int) < (len0 : Int) := by omega
      have b7 : bits .and .i64 (n : Int) 7 = ((n % 8 : Nat) : Int) := by rw [i64_and7]; omega
      go_wp2_with fail
      have ew : wordAt A.words (0 : Int).toNat = z := by rw [HM.out.2.words]; rfl
      refine (u_add HM.out.1 ((n : Int) % 8) 0 ((wordAt z0 n).tmod 1000) (by omega) (by rw [HM.out.2.cores]; omega) (by omega) (by rw [HM.out.2.words]; simp) (by rw [HM.out.2.many _ (by omega)]; omega)).mono ?_
      rintro e w4 ⟨rfl, hm4⟩
      rw [ew] at hm4 ⊢
      rw [show ((n : Int) % 8).toNat = n % 8 from by omega] at hm4
      have HN : Hid (_ ∧ _) := ⟨hm4, HM.out.2.next (wrap64 (z + (wordAt z0 n).tmod 1000))⟩
      clear hm4 ew hcell
      go_wp2_with (first
        | (go_at_call 10; refine (num _ _).mono ?_; rintro e w' ⟨rfl, rfl⟩))
      go_roundw
      case rel => exact ⟨n + 1, by omega, by omega, by go_num, _, rfl, ⟨_, HN.out⟩⟩
      case measure => simp [intOf]; omega
    · by_cases hx : n < len0
      · have i1 : (n : Int) < (len0 : Int) := by omega
        have i2 : ¬ (n : Int) < 100 := by omega
        obtain ⟨A, hm, hI⟩ := HR.out
        have HM : Hid (_) := hm
        have hmany : (A.traces.getD (0 : Int).toNat []).length = (n + 7) / 8 := hI.many 0 (by omega)
        have hcor : (0 : Int) < (A.traces.length : Int) := by rw [hI.cores]; omega
        have HN : Hid (_ ∧ _) := ⟨hmany, hcor⟩
        clear hmany hcor hI hm HR HI
        have t0 : ((len0 : Int) == 0) = false := by simp; omega
        have hmin : min (len0 : Int) 100 = 100 := by omega
        go_wp2_with (first
          | (go_at_call 10; refine (num _ _).mono ?_; rintro e w' ⟨rfl, rfl⟩)
          | (go_at_call 23; refine (u_many HM.out 0 _ (by omega) HN.out.2 HN.out.1 (by omega)).mono ?_; rintro e w7 ⟨a7, c7, rfl, hm7⟩))
        go_ret
        have hfin : (((n : Int) + 7) / 8 == 13) = true := by simp; omega
        exact ⟨congrArg (fun x => Ending.returned (.bool x)) hfin, HK.out.trans hm7.1 (by simp)⟩

      · have i1 : ¬ (n : Int) < (len0 : Int) := by omega
        obtain ⟨A, hm, hI⟩ := HR.out
        have HM : Hid (_) := hm
        have hmany : (A.traces.getD (0 : Int).toNat []).length = (n + 7) / 8 := hI.many 0 (by omega)
        have hcor : (0 : Int) < (A.traces.length : Int) := by rw [hI.cores]; omega
        have HN : Hid (_ ∧ _) := ⟨hmany, hcor⟩
        clear hmany hcor hI hm HR HI
        have t0 : ((len0 : Int) == 0) = false := by simp; omega
        have hmin : min (len0 : Int) 100 = (len0 : Int) := by omega
        go_wp2_with (first
          | (go_at_call 10; refine (num _ _).mono ?_; rintro e w' ⟨rfl, rfl⟩)
          | (go_at_call 23; refine (u_many HM.out 0 _ (by omega) HN.out.2 HN.out.1 (by omega)).mono ?_; rintro e w7 ⟨a7, c7, rfl, hm7⟩))
        go_ret
        have hfin : (((n : Int) + 7) / 8 == ((len0 : Int) + 7) / 8) = true := by simp; omega
        exact ⟨congrArg (fun x => Ending.returned (.bool x)) hfin, HK.out.trans hm7.1 (by simp)⟩

theorem walk (a0 : Option Addr) (len0 cap0 : Nat) (z0 : List Int) (w : World) (w0 : IsRow .i64 w a0 len0 cap0 z0) :
    Calls Try.prog 6 #[.slice a0 len0 cap0] w fun e w' => e = .returned (.bool true) ∧ Below w.heap.size w w' := by
  by_cases h0 : len0 = 0
  · subst h0
    exact (walk_none a0 cap0 w).mono fun e w' ⟨he, hk⟩ => ⟨he, hk.below (Nat.le_refl _) (by simp)⟩
  · rcases w0 with ⟨_, h1, _, _⟩ | ⟨x, rfl, hl, hm, hz, hcell, _⟩
    · exact absurd h1 h0
    · obtain ⟨bb, off, rfl, hc⟩ := ints_at hcell (by omega)
      refine (walk_some bb off len0 cap0 z0 w (by omega) (by unfold maxLen at hm; omega) (fun i hi => ?_)).mono fun e w' ⟨he, hk⟩ => ⟨he, hk.below (Nat.le_refl _) (by simp)⟩
      exact hc i (by omega)

set_option maxRecDepth 100000 in
theorem lifted (os : Os) (started : os.Started) (H : Type) (enc : TypeId × Value → H) :
    ReturnsInHanded {} Try.checked os 6 .any (Rows.arenaSumsSpec.pre6 enc Try.prog Try.f6 Rows.arenaSumsRow.domain false) (Rows.arenaSumsSpec.post enc Try.prog Try.f6 false true false false) := by
  refine returnsInHanded_of_change (C := Try.checked) own started (by kernel_rfl) Try.func6
    (ChangeSpec.witness6 (enc := enc) (C := Try.checked) false ⟨#[], #[.slice none 0 0], []⟩ 8 (by kernel_rfl) (by kernel_rfl) (by kernel_rfl) (by kernel_rfl)) ?_
  intro W base args ds gs before hval0 hW hcnd _
  have hval : ∀ (j : Nat) t v, Try.f6.params[j]? = some t → args[j]? = some v → Value.okWide Try.prog W .any base t v := hval0
  have hW' := hW
  obtain ⟨p, q, hA0, hV, rfl, hfz, hnd⟩ := hW
  have hA : DataW.TrodAll enc Try.prog W 0 (fun _ => true) true Try.f6.params.toList args.toList ds p := hA0
  rw [Try.params6] at hA hval
  obtain ⟨v0, vs0, d0, ds0, p0, q0, hargs, rfl, rfl, h0, r0⟩ := trodAll_cons hA
  obtain ⟨rfl, rfl, rfl⟩ := trodAll_nil r0
  obtain rfl : args = #[v0] := by cases args; simp_all
  obtain ⟨rfl, rfl⟩ := trodVars_none hV
  obtain ⟨a0, len0, cap0, rfl⟩ := okWide_slice Try.underlying47 (hval 0 47 v0 rfl rfl)
  have k0 := h0
  have lt0 : ∀ x ∈ p0, x.block < W.heap.size := by obtain ⟨m, hm⟩ := k0; exact DataW.trod_lt m _ _ _ hm
  obtain ⟨z0, w0⟩ : ∃ zs, IsRow .i64 W a0 len0 cap0 zs := by
    obtain ⟨fuel, hf⟩ := h0
    rcases open_ints Try.underlying47 Try.underlying3 (by kernel_rfl) hf with ⟨hcs, _⟩ | ⟨x, l, c, zs, hcs, _, hl, hm, hz, _, hcell, hwz⟩
    · simp [Value.cells] at hcs
      obtain ⟨rfl, rfl, rfl⟩ := hcs
      exact ⟨[], .inl ⟨rfl, rfl, rfl, rfl⟩⟩
    · simp [Value.cells] at hcs
      obtain ⟨rfl, rfl, rfl⟩ := hcs
      exact ⟨zs, .inr ⟨_, rfl, hl, hm, by simpa using hz, hcell, hwz⟩⟩
  clear hA0 hval0
  refine (walk a0 len0 cap0 z0 W w0).mono fun e W' ⟨he, bel⟩ => ?_
  subst he
  exact ⟨_, rfl, _, _, _, [], _, [], hW', trodAll_mk1 (shut_bool Try.underlying4 _), (trodAll_cons_mk (Below.trod laidOut (by kernel_rfl) (of_decide_eq_true (by kernel_rfl)) k0 bel lt0) trodAll_mk0), rfl, bel.frame _, fun h => by cases h⟩

theorem over : Rows.arenaSumsRow.holds Try.pinned (OpenSpec.ofChange Rows.arenaSumsSpec) :=
  OpenClaim.holds_of_wide 6 Try.f6 rfl rfl rfl rfl rfl rfl rfl ⟨rfl, rfl, rfl, rfl, rfl⟩ rfl rfl rfl rfl rfl (by kernel_rfl) Try.func6 (by kernel_rfl)
    (of_decide_eq_true (by kernel_rfl)) (by unfold Func.isWrapper; first | (rw [if_pos (by decide +kernel)]; kernel_rfl) | (rw [if_neg (by decide +kernel)]; exact ⟨rfl, rfl⟩))
    (fun os started H enc _ => lifted os started H enc)

end Go.Proofs.Ytkaijfpenokmbaa.arenaSums

namespace Go.Proofs.Ytkaijfpenokmbaa
theorem arenaSums_holds : Rows.ArenaSumsSaid := arenaSums.over
#print axioms arenaSums_holds
end Go.Proofs.Ytkaijfpenokmbaa
