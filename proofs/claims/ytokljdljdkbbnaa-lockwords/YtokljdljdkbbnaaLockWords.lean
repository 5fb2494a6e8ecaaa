/-
  Proved: for every mask and who, the law LockWords returns true. No condition.
-/
import Derived.Test.YtokljdljdkbbnaaRows
import Derived.Test.YtokljdljdkbbnaaGrow
import Derived.WalkKit
import Derived.ProofKit
import Derived.OpenShut
import Derived.ShutString
import Derived.ChangeOld
import Derived.Below
import Derived.Deep.Slices
namespace Go.Proofs.Ytokljdljdkbbnaa.lockWords
open Go.ChangeShapes Go.WideShapes Go.ChangeAt Go.RowKit
open Go.ChangeMaps (open_string shut_string)
set_option linter.unusedVariables false

theorem own : ownKnob Try.prog.godebug = none := by kernel_rfl
theorem laidOut : laidOutB Try.prog = true := by kernel_rfl

/-- Is bit j of a mask on? -/
def on (mask : Int) (j : Nat) : Bool := bits .and .i64 (mask / 2 ^ j) 1 == 1

/-- Words 0 to n - 1 are m's where the mask has them, all others are free. -/
structure Lk (mask : Int) (m n d : Nat) (A : Ar) : Prop where
  len : A.words.length = 8
  word : ∀ j, j < 8 → wordAt A.words j = if (decide (j < n) && on mask j) = true then (m : Int) + 1 else 0
  few : Few 4 d A

theorem word_set (xs : List Int) (k j : Nat) (v : Int) (hk : k < xs.length) : wordAt (xs.set k v) j = if j = k then v else wordAt xs j := by
  unfold wordAt
  rw [List.getD, List.getD, List.getElem?_set]
  by_cases h : k = j
  · subst h; simp [hk]
  · rw [if_neg h, if_neg (fun e => h e.symm)]

theorem Lk.start (mask : Int) (m : Nat) : Lk mask m 0 0 (fresh 8 4) where
  len := by simp [fresh]
  word := fun j hj => by
    rw [if_neg (by simp)]
    simp only [fresh, wordAt]
    rw [List.getD, List.getElem?_replicate, if_pos (by omega)]
    rfl
  few := Few.fresh 8 4

theorem Lk.off {mask : Int} {m n d : Nat} {A : Ar} (h : Lk mask m n d A) (hb : on mask n = false) : Lk mask m (n + 1) d A where
  len := h.len
  word := fun j hj => by
    rw [h.word j hj]
    by_cases e : j = n
    · subst e; simp [hb]
    · have : decide (j < n + 1) = decide (j < n) := by rw [decide_eq_decide]; omega
      rw [this]
  few := h.few

theorem Lk.free {mask : Int} {m n d : Nat} {A : Ar} (h : Lk mask m n d A) (hn : n < 8) : wordAt A.words n = 0 := by
  rw [h.word n hn, if_neg (by simp)]

theorem Lk.put {mask : Int} {m n d : Nat} {A : Ar} (h : Lk mask m n d A) (hn : n < 8) (hm : m < 4) (hb : on mask n = true) : Lk mask m (n + 1) (d + 1) (A.touch m n (some ((m : Int) + 1))) where
  len := by rw [touch_words, List.length_set]; exact h.len
  word := fun j hj => by
    rw [touch_words, word_set _ _ _ _ (by rw [h.len]; exact hn)]
    by_cases e : j = n
    · subst e; simp [hb]
    · rw [if_neg e, h.word j hj]
      have : decide (j < n + 1) = decide (j < n) := by rw [decide_eq_decide]; omega
      rw [this]
  few := h.few.touch m n _ hm

theorem Lk.look {mask : Int} {m n d : Nat} {A : Ar} (h : Lk mask m n d A) (c k : Nat) (hc : c < 4) : Lk mask m n (d + 1) (A.touch c k none) :=
  ⟨h.len, h.word, h.few.touch c k none hc⟩

set_option maxRecDepth 100000 in
set_option maxHeartbeats 8000000 in
theorem main (mask who : Int) (m m2 : Nat) (w : World) (hm4 : m < 4) (b3 : bits .and .i64 who 3 = (m : Int)) (hm2 : m2 < 4) (hne : m2 ≠ m) (b4 : bits .and .i64 ((m : Int) + 1) 3 = (m2 : Int)) :
    Calls Try.prog 6 #[.int .i64 mask, .int .i64 who] w fun e w' => e = .returned (.bool true) ∧ Kept [] w w' := by
  go_enter Try.func6, Try.ntmps6
  go_wp2_with fail
  refine (awake_any w).mono ?_
  rintro e w1 ⟨rfl, hK⟩
  have HK : Hid (_) := hK
  clear hK
  go_wp2_with fail
  refine (h_new w1 8 4 (by omega) (by omega) (by omega) (by omega)).mono ?_
  rintro e w2 ⟨b, rfl, hm⟩
  have HI : Hid (∃ A, Hs [] w1 w2 b A ∧ Lk mask m 0 0 A) := ⟨_, hm, Lk.start mask m⟩
  clear hm
  go_wp2_with fail
  go_loopw [8] (fun i wr => ∃ n : Nat, n ≤ 8 ∧ i = .int .i64 (n : Int) ∧ Hid (∃ A, Hs [] w1 wr b A ∧ Lk mask m n n A)) (fun i _ => (8 - intOf i).toNat)
  case atStart => exact ⟨0, by omega, rfl, HI⟩
  case round =>
    obtain ⟨n, hn, rfl, HR⟩ := hrel
    obtain ⟨A, hm, hT⟩ := HR.out
    have HM : Hid (Hs [] w1 wr b A) := hm
    have HT : Hid (Lk mask m n n A) := hT
    clear HI HR hm hT
    by_cases hlt : n < 8
    · have i0 : (0 : Int) ≤ (n : Int) := by omega
      have i1 : (n : Int) < 8 := by omega
      cases hb : on mask n with
      | true =>
        have t1 : (bits .and .i64 (mask / 2 ^ n) 1 == 1) = true := hb
        have HB : Hid (on mask n = true) := hb
        clear hb
        go_wp2_with fail
        refine (try_yes HM.out (m : Int) (n : Int) (by omega) (by rw [HT.out.few.cores]; omega) (by omega) (by rw [HT.out.len]; omega) (by have := HT.out.few.many m; rw [show (m : Int).toNat = m from rfl]; omega) (HT.out.free hlt)).mono ?_
        rintro e w4 ⟨rfl, hm5⟩
        have HN : Hid (Hs [] w1 w4 b (A.touch m n (some ((m : Int) + 1)))) := hm5
        clear hm5
        go_wp2_with fail
        go_roundw
        case rel => exact ⟨n + 1, by omega, by go_num, ⟨_, HN.out, HT.out.put hlt hm4 HB.out⟩⟩
        case measure => simp [intOf]; omega
      | false =>
        have t1 : (bits .and .i64 (mask / 2 ^ n) 1 == 1) = false := hb
        have HB : Hid (on mask n = false) := hb
        clear hb
        go_wp2_with fail
        go_roundw
        case rel => exact ⟨n + 1, by omega, by go_num, ⟨_, HM.out, ⟨(HT.out.off HB.out).len, (HT.out.off HB.out).word, HT.out.few.mono (by omega)⟩⟩⟩
        case measure => simp [intOf]; omega
    · have i1 : ¬ (n : Int) < 8 := by omega
      have h8 : n = 8 := by omega
      have hT8 : Lk mask m 8 8 A := h8 ▸ HT.out
      have HJ : Hid (∃ A, Hs [] w1 wr b A ∧ Lk mask m 8 (8 + 2 * 0) A) := ⟨_, HM.out, hT8⟩
      clear HM HT hlt hn h8 hT8
      go_wp2_with fail
      go_loopw [9] (fun i wr => ∃ n : Nat, n ≤ 8 ∧ i = .int .i64 (n : Int) ∧ Hid (∃ A, Hs [] w1 wr b A ∧ Lk mask m 8 (8 + 2 * n) A)) (fun i _ => (8 - intOf i).toNat)
      case atStart => exact ⟨0, by omega, rfl, HJ⟩
      case round =>
        obtain ⟨n, hn, rfl, HR⟩ := hrel
        obtain ⟨A, hm, hT⟩ := HR.out
        have HM : Hid (Hs [] w1 wr b A) := hm
        have HT : Hid (Lk mask m 8 (8 + 2 * n) A) := hT
        clear HJ HR hm hT
        by_cases hlt : n < 8
        · have i0 : (0 : Int) ≤ (n : Int) := by omega
          have i1 : (n : Int) < 8 := by omega
          cases hb : on mask n with
          | true =>
            have t1 : (bits .and .i64 (mask / 2 ^ n) 1 == 1) = true := hb
            have HW : Hid (wordAt A.words n = (m : Int) + 1) := by
              show wordAt A.words n = (m : Int) + 1
              rw [HT.out.word n hlt, if_pos (by simp [hb, hlt])]
            clear hb
            go_wp2_with fail
            refine (holder_any HM.out 0 (n : Int) (by omega) (by rw [HT.out.few.cores]; omega) (by omega) (by rw [HT.out.len]; omega) (Nat.lt_of_le_of_lt (HT.out.few.many 0) (by omega))).mono ?_
            rintro e w4 ⟨rfl, hm5⟩
            rw [show holds A.traces.length (wordAt A.words (n : Int).toNat) = (m : Int) from by rw [HT.out.few.cores, show (n : Int).toNat = n from rfl, HW.out]; unfold holds; rw [if_pos (by omega)]; omega]
            have HN : Hid (Hs [] w1 w4 b (A.touch 0 n none) ∧ Lk mask m 8 (8 + 2 * n + 1) (A.touch 0 n none)) := ⟨hm5, HT.out.look 0 n (by omega)⟩
            clear hm5
            go_wp2_with fail
            refine (unlock_no HN.out.1 (m2 : Int) (n : Int) (by omega) (by rw [HN.out.2.few.cores]; omega) (by omega) (by rw [HN.out.2.len]; omega) (by have := HN.out.2.few.many m2; rw [show (m2 : Int).toNat = m2 from rfl]; omega) (by rw [touch_words0, show (n : Int).toNat = n from rfl, HW.out]; omega)).mono ?_
            rintro e w5 ⟨rfl, hm6⟩
            have HN2 : Hid (Hs [] w1 w5 b ((A.touch 0 n none).touch m2 n none) ∧ Lk mask m 8 (8 + 2 * n + 1 + 1) ((A.touch 0 n none).touch m2 n none)) := ⟨hm6, HN.out.2.look m2 n hm2⟩
            clear hm6
            go_wp2_with (first
              | (go_at_call 8; refine (num _ _).mono ?_; rintro e w' ⟨rfl, rfl⟩))
            go_roundw
            case rel => exact ⟨n + 1, by omega, by go_num, ⟨_, HN2.out⟩⟩
            case measure => simp [intOf]; omega
          | false =>
            have t1 : (bits .and .i64 (mask / 2 ^ n) 1 == 1) = false := hb
            have HW : Hid (wordAt A.words n = 0) := by
              show wordAt A.words n = 0
              rw [HT.out.word n hlt, if_neg (by simp [hb])]
            clear hb
            go_wp2_with fail
            refine (holder_any HM.out 0 (n : Int) (by omega) (by rw [HT.out.few.cores]; omega) (by omega) (by rw [HT.out.len]; omega) (Nat.lt_of_le_of_lt (HT.out.few.many 0) (by omega))).mono ?_
            rintro e w4 ⟨rfl, hm5⟩
            rw [show holds A.traces.length (wordAt A.words (n : Int).toNat) = -1 from by rw [HT.out.few.cores, show (n : Int).toNat = n from rfl, HW.out]; rfl]
            have HN : Hid (Hs [] w1 w4 b (A.touch 0 n none) ∧ Lk mask m 8 (8 + 2 * n + 1) (A.touch 0 n none)) := ⟨hm5, HT.out.look 0 n (by omega)⟩
            clear hm5
            go_wp2_with fail
            refine (unlock_no HN.out.1 (m2 : Int) (n : Int) (by omega) (by rw [HN.out.2.few.cores]; omega) (by omega) (by rw [HN.out.2.len]; omega) (by have := HN.out.2.few.many m2; rw [show (m2 : Int).toNat = m2 from rfl]; omega) (by rw [touch_words0, show (n : Int).toNat = n from rfl, HW.out]; omega)).mono ?_
            rintro e w5 ⟨rfl, hm6⟩
            have HN2 : Hid (Hs [] w1 w5 b ((A.touch 0 n none).touch m2 n none) ∧ Lk mask m 8 (8 + 2 * n + 1 + 1) ((A.touch 0 n none).touch m2 n none)) := ⟨hm6, HN.out.2.look m2 n hm2⟩
            clear hm6
            go_wp2_with (first
              | (go_at_call 8; refine (num _ _).mono ?_; rintro e w' ⟨rfl, rfl⟩))
            go_roundw
            case rel => exact ⟨n + 1, by omega, by go_num, ⟨_, HN2.out⟩⟩
            case measure => simp [intOf]; omega
        · have i1 : ¬ (n : Int) < 8 := by omega
          go_wp2_with (first
            | (go_at_call 8; refine (num _ _).mono ?_; rintro e w' ⟨rfl, rfl⟩))
          go_ret
          exact ⟨rfl, HK.out.trans HM.out.1 (by simp)⟩

theorem walk (mask who : Int) (w : World) (_ : (Lit.int .i64 mask).wf = true) (_ : (Lit.int .i64 who).wf = true) :
    Calls Try.prog 6 #[.int .i64 mask, .int .i64 who] w fun e w' => e = .returned (.bool true) ∧ Below w.heap.size w w' :=
  (main mask who (who % 4).toNat (((who % 4).toNat + 1) % 4) w (by omega) (by rw [i64_and3]; omega) (by omega) (by omega) (by rw [i64_and3]; omega)).mono fun e w' ⟨he, hk⟩ => ⟨he, hk.below (Nat.le_refl _) (by simp)⟩

set_option maxRecDepth 100000 in
theorem lifted (os : Os) (started : os.Started) (H : Type) (enc : TypeId × Value → H) :
    ReturnsInHanded {} Try.checked os 6 .any (Rows.lockWordsSpec.pre6 enc Try.prog Try.f6 Rows.lockWordsRow.domain false) (Rows.lockWordsSpec.post enc Try.prog Try.f6 false true false false) := by
  refine returnsInHanded_of_change (C := Try.checked) own started (by kernel_rfl) Try.func6
    (ChangeSpec.witness6 (enc := enc) (C := Try.checked) false ⟨#[], #[.int .i64 0, .int .i64 0], []⟩ 8 (by kernel_rfl) (by kernel_rfl) (by kernel_rfl) (by kernel_rfl)) ?_
  intro W base args ds gs before hval0 hW hcnd _
  have hval : ∀ (j : Nat) t v, Try.f6.params[j]? = some t → args[j]? = some v → Value.okWide Try.prog W .any base t v := hval0
  have hW' := hW
  obtain ⟨p, q, hA0, hV, rfl, hfz, hnd⟩ := hW
  have hA : DataW.TrodAll enc Try.prog W 0 (fun _ => true) true Try.f6.params.toList args.toList ds p := hA0
  rw [Try.params6] at hA hval
  obtain ⟨v0, vs0, d0, ds0, p0, q0, hargs, rfl, rfl, h0, r0⟩ := trodAll_cons hA
  obtain ⟨v1, vs1, d1, ds1, p1, q1, rfl, rfl, rfl, h1, r1⟩ := trodAll_cons r0
  obtain ⟨rfl, rfl, rfl⟩ := trodAll_nil r1
  obtain rfl : args = #[v0, v1] := by cases args; simp_all
  obtain ⟨rfl, rfl⟩ := trodVars_none hV
  obtain ⟨a0, rfl, rfl, rfl, w0⟩ := open_int Try.underlying3 (hval 0 3 v0 rfl rfl) h0
  obtain ⟨a1, rfl, rfl, rfl, w1⟩ := open_int Try.underlying3 (hval 1 3 v1 rfl rfl) h1
  clear hA0 hval0
  refine (walk a0 a1 W w0 w1).mono fun e W' ⟨he, bel⟩ => ?_
  subst he
  simp only [List.append_nil] at hW'
  exact ⟨_, rfl, _, _, _, [], [], [], hW', (trodAll_cons_mk (shut_bool Try.underlying4 _) trodAll_mk0), (trodAll_cons_mk (shut_int Try.underlying3 w0) (trodAll_cons_mk (shut_int Try.underlying3 w1) trodAll_mk0)), rfl, bel.frame _, fun h => by cases h⟩

theorem over : Rows.lockWordsRow.holds Try.pinned (OpenSpec.ofChange Rows.lockWordsSpec) :=
  OpenClaim.holds_of_wide 6 Try.f6 rfl rfl rfl rfl rfl rfl rfl ⟨rfl, rfl, rfl, rfl, rfl⟩ rfl rfl rfl rfl rfl (by kernel_rfl) Try.func6 (by kernel_rfl)
    (of_decide_eq_true (by kernel_rfl)) (by unfold Func.isWrapper; first | (rw [if_pos (by decide +kernel)]; kernel_rfl) | (rw [if_neg (by decide +kernel)]; exact ⟨rfl, rfl⟩))
    (fun os started H enc _ => lifted os started H enc)

end Go.Proofs.Ytokljdljdkbbnaa.lockWords

namespace Go.Proofs.Ytokljdljdkbbnaa
theorem lockWords_holds : Rows.LockWordsSaid := lockWords.over
#print axioms lockWords_holds
end Go.Proofs.Ytokljdljdkbbnaa
