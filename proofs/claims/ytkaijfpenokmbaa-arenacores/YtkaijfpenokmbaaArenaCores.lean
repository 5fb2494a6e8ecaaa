/-
  Proved: for every cores and who, the law ArenaCores returns true. No condition.
-/
import Derived.Test.YtkaijfpenokmbaaRows
import Derived.Test.YtkaijfpenokmbaaFacts
import Derived.WalkKit
import Derived.ProofKit
import Derived.OpenShut
import Derived.ShutString
import Derived.ChangeOld
import Derived.Below
import Derived.Deep.Slices
namespace Go.Proofs.Ytkaijfpenokmbaa.arenaCores
open Go.ChangeShapes Go.WideShapes Go.ChangeAt Go.RowKit
open Go.ChangeMaps (open_string shut_string)
set_option linter.unusedVariables false

theorem own : ownKnob Try.prog.godebug = none := by kernel_rfl
theorem laidOut : laidOutB Try.prog = true := by kernel_rfl

/-- While the traces are filled: k cores, c of them whole, core c has i accesses. -/
structure Fill (k c i : Nat) (A : Ar) : Prop where
  words : A.words.length = 8
  cores : A.traces.length = k
  many : ∀ d, d < k → (A.traces.getD d []).length = if d < c then d + 1 else if d = c then i else 0

theorem Fill.start {k : Nat} : Fill k 0 0 (fresh 8 k) := ⟨rfl, by simp [fresh], fun d hd => by
  have : (fresh 8 k).traces.getD d [] = [] := by
    show (List.replicate k ([] : List (Int × Bool))).getD d [] = []
    rw [List.getD, List.getElem?_replicate, if_pos hd]
    rfl
  rw [this]
  simp⟩

theorem Fill.next {k c i : Nat} {A : Ar} (h : Fill k c i A) (hc : c < k) (j : Nat) (z : Int) : Fill k c (i + 1) (A.touch c j (some z)) where
  words := by rw [touch_words, List.length_set]; exact h.words
  cores := by rw [touch_cores]; exact h.cores
  many := fun d hd => by
    rw [touch_trace _ _ _ _ _ (by rw [h.cores]; exact hc)]
    by_cases e : d = c
    · subst e
      rw [if_pos rfl, List.length_append, h.many d hd, if_neg (by omega), if_pos rfl, if_neg (by omega), if_pos rfl]
      rfl
    · rw [if_neg e, h.many d hd]
      by_cases e2 : d < c
      · rw [if_pos e2, if_pos e2]
      · rw [if_neg e2, if_neg e2, if_neg e, if_neg e]

theorem Fill.then {k c : Nat} {A : Ar} (h : Fill k c (c + 1) A) : Fill k (c + 1) 0 A where
  words := h.words
  cores := h.cores
  many := fun d hd => by
    rw [h.many d hd]
    by_cases e : d = c
    · subst e
      rw [if_neg (by omega), if_pos rfl, if_pos (by omega)]
    · by_cases e2 : d < c
      · rw [if_pos e2, if_pos (by omega)]
      · rw [if_neg e2, if_neg e, if_neg (by omega)]
        split <;> rfl

theorem Fill.small {k c i : Nat} {A : Ar} (h : Fill k c i A) (hc : c ≤ 8) (hi : i ≤ 9) (d : Nat) (hd : d < k) : (A.traces.getD d []).length < 1000000 := by
  rw [h.many d hd]
  by_cases e2 : d < c
  · rw [if_pos e2]; omega
  · rw [if_neg e2]
    by_cases e : d = c
    · rw [if_pos e]; omega
    · rw [if_neg e]; omega

/-- All whole but core v, which was forgotten. -/
structure Done (k v : Nat) (A : Ar) : Prop where
  cores : A.traces.length = k
  many : ∀ d, d < k → (A.traces.getD d []).length = if d = v then 0 else d + 1

theorem Fill.done {k v : Nat} {A : Ar} (h : Fill k k 0 A) (hv : v < k) : Done k v (A.clear v) where
  cores := by rw [clear_cores]; exact h.cores
  many := fun d hd => by
    rw [clear_trace _ _ _ (by rw [h.cores]; exact hv)]
    by_cases e : d = v
    · rw [if_pos e, if_pos e]; rfl
    · rw [if_neg e, if_neg e, h.many d hd, if_pos hd]

theorem who_bounds (who : Int) (k : Nat) (hk : 1 ≤ k) (hk8 : k ≤ 8) : 0 ≤ wrap64 ((IntKind.u64.wrap who).tmod (k : Int)) ∧ wrap64 ((IntKind.u64.wrap who).tmod (k : Int)) < (k : Int) := by
  have h0 : 0 ≤ IntKind.u64.wrap who := by rw [IntKind.wrap_u64]; omega
  generalize IntKind.u64.wrap who = x at *
  rw [Int.tmod_eq_emod_of_nonneg h0]
  have h1 : 0 ≤ x % (k : Int) := Int.emod_nonneg _ (by omega)
  have h2 : x % (k : Int) < (k : Int) := Int.emod_lt_of_pos _ (by omega)
  have : wrap64 (x % (k : Int)) = x % (k : Int) := by unfold wrap64; omega
  rw [this]
  omega

set_option maxRecDepth 100000 in
set_option maxHeartbeats 8000000 in
theorem main (cores who : Int) (k : Nat) (w : World) (hk : 1 ≤ k) (hk8 : k ≤ 8) (hb : bits .and .i64 cores 7 = (k : Int) - 1) :
    Calls Try.prog 7 #[.int .i64 cores, .int .i64 who] w fun e w' => e = .returned (.bool true) ∧ Kept [] w w' := by
  have HV : Hid (_ ∧ _) := who_bounds who k hk hk8
  have e1 : 1 + ((k : Int) - 1) = (k : Int) := by omega
  go_enter Try.func7, Try.ntmps7
  go_wp2_with fail
  refine (awake_any w).mono ?_
  rintro e w1 ⟨rfl, hK⟩
  have HK : Hid (_) := hK
  clear hK
  go_wp2_with fail
  refine (u_new w1 8 (k : Int) (by omega) (by omega) (by omega) (by omega)).mono ?_
  rintro e w2 ⟨b, rfl, hm⟩
  have HI : Hid (∃ A, Has w1 w2 b A ∧ Fill k 0 0 A) := ⟨_, hm, Fill.start⟩
  clear hm hb e1
  go_wp2_with fail
  go_loopw [8] (fun c wr => ∃ n : Nat, n ≤ k ∧ c = .int .i64 (n : Int) ∧ Hid (∃ A, Has w1 wr b A ∧ Fill k n 0 A)) (fun c _ => (k - intOf c).toNat)
  case atStart => exact ⟨0, by omega, rfl, HI⟩
  case round =>
    obtain ⟨n, hn, rfl, HR⟩ := hrel
    clear HI
    by_cases hlt : n < k
    · have i1 : (n : Int) < (k : Int) := by omega
      go_wp2_with fail
      go_loopw [9] (fun c wr => ∃ m : Nat, m ≤ n + 1 ∧ c = .int .i64 (m : Int) ∧ Hid (∃ A, Has w1 wr b A ∧ Fill k n m A)) (fun c _ => (n + 1 - intOf c).toNat)
      case atStart => exact ⟨0, by omega, rfl, HR⟩
      case round =>
        obtain ⟨m, hm, rfl, HS⟩ := hrel
        clear HR
        by_cases hle : m ≤ n
        · have i2 : (m : Int) ≤ (n : Int) := by omega
          obtain ⟨A, hA, hF⟩ := HS.out
          have HF : Hid (_) := hF
          clear hF HS
          go_wp2_with fail
          refine (u_store hA (n : Int) (m : Int) (n : Int) (by omega) (by rw [HF.out.cores]; omega) (by omega) (by rw [HF.out.words]; omega) (HF.out.small (by omega) (by omega) n hlt)).mono ?_
          rintro e w4 ⟨rfl, hm4⟩
          have HN : Hid (_ ∧ _) := ⟨hm4, HF.out.next hlt m (n : Int)⟩
          clear hm4 HF hA
          go_wp2
          go_roundw
          case rel => exact ⟨m + 1, by omega, by go_num, ⟨_, HN.out⟩⟩
          case measure => simp [intOf]; omega
        · have i2 : ¬ (m : Int) ≤ (n : Int) := by omega
          have hmn : m = n + 1 := by omega
          subst hmn
          go_wp2
          go_roundw
          case rel =>
            obtain ⟨A, hA, hF⟩ := HS.out
            exact ⟨n + 1, by omega, by go_num, ⟨A, hA, hF.then⟩⟩
          case measure => simp [intOf]; omega
    · have i1 : ¬ (n : Int) < (k : Int) := by omega
      have hnk : n = k := by omega
      subst hnk
      go_wp2_with fail
      have hv0 := HV.out.1
      have hv1 := HV.out.2
      clear HV
      generalize wrap64 ((IntKind.u64.wrap who).tmod (n : Int)) = vv at *
      obtain ⟨v, rfl⟩ := Int.eq_ofNat_of_zero_le hv0
      obtain ⟨A, hA, hF⟩ := HR.out
      have hcc := hF.cores
      refine (u_clear hA (v : Int) hv0 (by rw [hcc]; exact hv1)).mono ?_
      rintro e w5 ⟨rfl, hm5⟩
      have HD : Hid (∃ A, Has w1 w5 b A ∧ Done n v A) := ⟨_, hm5, hF.done (by omega)⟩
      clear hm5 hA hF hcc HR
      go_wp2_with fail
      go_loopw [12] (fun c wr => ∃ m : Nat, m ≤ n ∧ c = .int .i64 (m : Int) ∧ Hid (∃ A, Has w1 wr b A ∧ Done n v A)) (fun c _ => (n - intOf c).toNat)
      case atStart => exact ⟨0, by omega, rfl, HD⟩
      case round =>
        obtain ⟨m, hm, rfl, HS⟩ := hrel
        clear HD
        obtain ⟨A, hA, hF⟩ := HS.out
        have HF : Hid (_ ∧ _) := ⟨hA, hF⟩
        clear hA hF HS
        by_cases hle : m < n
        · have i2 : (m : Int) < (n : Int) := by omega
          by_cases hmv : m = v
          · subst hmv
            have t1 : ((m : Int) == (m : Int)) = true := by simp
            go_wp2_with (first
              | (go_at_call 23; refine (u_many HF.out.1 (m : Int) 0 (by omega) (by rw [HF.out.2.cores]; omega) (by rw [show (m : Int).toNat = m from by omega, HF.out.2.many m hle, if_pos rfl]) (by omega)).mono ?_; rintro e w7 ⟨a7, c7, rfl, hm7⟩))
            go_roundw
            case rel => exact ⟨m + 1, by omega, by go_num, ⟨_, hm7, HF.out.2⟩⟩
            case measure => simp [intOf]; omega
          · have t1 : ((m : Int) == (v : Int)) = false := by simp; omega
            go_wp2_with (first
              | (go_at_call 23; refine (u_many HF.out.1 (m : Int) (m + 1) (by omega) (by rw [HF.out.2.cores]; omega) (by rw [show (m : Int).toNat = m from by omega, HF.out.2.many m hle, if_neg hmv]) (by omega)).mono ?_; rintro e w7 ⟨a7, c7, rfl, hm7⟩))
            go_roundw
            case rel => exact ⟨m + 1, by omega, by go_num, ⟨_, hm7, HF.out.2⟩⟩
            case measure => simp [intOf]; omega
        · have i2 : ¬ (m : Int) < (n : Int) := by omega
          go_wp2_with fail
          refine (u_clear_no HF.out.1 (n : Int) (Or.inr (by rw [HF.out.2.cores]; omega))).mono ?_
          rintro e w' ⟨rfl, rfl⟩
          go_wp2_with (first
            | (go_at_call 10; refine (num _ _).mono ?_; rintro e w' ⟨rfl, rfl⟩)
            | (go_at_call 23; refine (u_trace_no HF.out.1 (n : Int) (Or.inr (by rw [HF.out.2.cores]; omega))).mono ?_; rintro e w' ⟨rfl, rfl⟩))
          go_ret
          exact ⟨rfl, HK.out.trans HF.out.1.1 (by simp)⟩

theorem walk (cores who : Int) (w : World) (_ : (Lit.int .i64 cores).wf = true) (_ : (Lit.int .i64 who).wf = true) :
    Calls Try.prog 7 #[.int .i64 cores, .int .i64 who] w fun e w' => e = .returned (.bool true) ∧ Below w.heap.size w w' := by
  have h7 : bits .and .i64 cores 7 = (((cores % 8).toNat + 1 : Nat) : Int) - 1 := by rw [i64_and7]; omega
  exact (main cores who _ w (by omega) (by omega) h7).mono fun e w' ⟨he, hk⟩ => ⟨he, hk.below (Nat.le_refl _) (by simp)⟩

set_option maxRecDepth 100000 in
theorem lifted (os : Os) (started : os.Started) (H : Type) (enc : TypeId × Value → H) :
    ReturnsInHanded {} Try.checked os 7 .any (Rows.arenaCoresSpec.pre6 enc Try.prog Try.f7 Rows.arenaCoresRow.domain false) (Rows.arenaCoresSpec.post enc Try.prog Try.f7 false true false false) := by
  refine returnsInHanded_of_change (C := Try.checked) own started (by kernel_rfl) Try.func7
    (ChangeSpec.witness6 (enc := enc) (C := Try.checked) false ⟨#[], #[.int .i64 0, .int .i64 0], []⟩ 8 (by kernel_rfl) (by kernel_rfl) (by kernel_rfl) (by kernel_rfl)) ?_
  intro W base args ds gs before hval0 hW hcnd _
  have hval : ∀ (j : Nat) t v, Try.f7.params[j]? = some t → args[j]? = some v → Value.okWide Try.prog W .any base t v := hval0
  have hW' := hW
  obtain ⟨p, q, hA0, hV, rfl, hfz, hnd⟩ := hW
  have hA : DataW.TrodAll enc Try.prog W 0 (fun _ => true) true Try.f7.params.toList args.toList ds p := hA0
  rw [Try.params7] at hA hval
  obtain ⟨v0, vs0, d0, ds0, p0, q0, hargs, rfl, rfl, h0, r0⟩ := trodAll_cons hA
  obtain ⟨v1, vs1, d1, ds1, p1, q1, rfl, rfl, rfl, h1, r1⟩ := trodAll_cons r0
  obtain ⟨rfl, rfl, rfl⟩ := trodAll_nil r1
  obtain rfl : args = #[v0, v1] := by cases args; simp_all
  obtain ⟨rfl, rfl⟩ := trodVars_none hV
  obtain ⟨a0, rfl, rfl, rfl, w0⟩ := open_int Try.underlying3 (hval 0 3 v0 rfl rfl) h0
  obtain ⟨a1, rfl, rfl, rfl, w1⟩ := open_int Try.underlying3 (hval 1 3 v1 rfl rfl) h1
  clear hA0 hval0
  refine (walk a0 a1 W w0 w1).mono fun e W' ⟨he, bel⟩ => ?_
  subst he
  simp only [List.append_nil] at hW'
  exact ⟨_, rfl, _, _, _, [], [], [], hW', (trodAll_cons_mk (shut_bool Try.underlying4 _) trodAll_mk0), (trodAll_cons_mk (shut_int Try.underlying3 w0) (trodAll_cons_mk (shut_int Try.underlying3 w1) trodAll_mk0)), rfl, bel.frame _, fun h => by cases h⟩

theorem over : Rows.arenaCoresRow.holds Try.pinned (OpenSpec.ofChange Rows.arenaCoresSpec) :=
  OpenClaim.holds_of_wide 7 Try.f7 rfl rfl rfl rfl rfl rfl rfl ⟨rfl, rfl, rfl, rfl, rfl⟩ rfl rfl rfl rfl rfl (by kernel_rfl) Try.func7 (by kernel_rfl)
    (of_decide_eq_true (by kernel_rfl)) (by unfold Func.isWrapper; first | (rw [if_pos (by decide +kernel)]; kernel_rfl) | (rw [if_neg (by decide +kernel)]; exact ⟨rfl, rfl⟩))
    (fun os started H enc _ => lifted os started H enc)

end Go.Proofs.Ytkaijfpenokmbaa.arenaCores

namespace Go.Proofs.Ytkaijfpenokmbaa
theorem arenaCores_holds : Rows.ArenaCoresSaid := arenaCores.over
#print axioms arenaCores_holds
end Go.Proofs.Ytkaijfpenokmbaa
