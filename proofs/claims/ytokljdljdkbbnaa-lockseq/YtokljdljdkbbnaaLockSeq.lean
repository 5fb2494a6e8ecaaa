/-
  Proved: for every picks, the law LockSeq returns true. No condition.
-/
import Derived.Test.YtokljdljdkbbnaaRows
import Derived.Test.YtokljdljdkbbnaaGrow
import Derived.WalkKit
import Derived.ProofKit
import Derived.OpenShut
import Derived.ShutString
import Derived.ChangeOld
import Derived.Below
import Derived.Deep.Slices
namespace Go.Proofs.Ytokljdljdkbbnaa.lockSeq
open Go.ChangeShapes Go.WideShapes Go.ChangeAt Go.RowKit
open Go.ChangeMaps (open_string shut_string)
set_option linter.unusedVariables false

theorem own : ownKnob Try.prog.godebug = none := by kernel_rfl
theorem laidOut : laidOutB Try.prog = true := by kernel_rfl

def IsRow (k : IntKind) (w : World) (a : Option Addr) (len cap : Nat) (zs : List Int) : Prop :=
  (a = none ∧ len = 0 ∧ cap = 0 ∧ zs = []) ∨
  ∃ x, a = some x ∧ len ≤ cap ∧ cap ≤ maxLen ∧ zs.length = cap ∧ (∀ i, i < zs.length → w.cell? (x.add i) = some (.int k (zs.getD i 0))) ∧ ∀ n ∈ zs, (Lit.int k n).wf = true

/-- Behind n picks: the writer has turned the lock t times; the look's number is seq (-1: none), and what was read then is at0. -/
structure Sq (n t : Nat) (seq at0 : Int) (wr : Bool) (A : Ar) : Prop where
  words : A.words = [(t : Int), (((t + 1) / 2 : Nat) : Int), ((t / 2 : Nat) : Int)]
  le : t ≤ n
  few : Few 2 (2 * n) A
  odd : wr = decide (t % 2 = 1)
  look : seq = -1 ∨ ∃ s : Nat, seq = (s : Int) ∧ at0 = ((s / 2 : Nat) : Int)

theorem Sq.len {n t : Nat} {q a : Int} {wr : Bool} {A : Ar} (h : Sq n t q a wr A) : A.words.length = 3 := by rw [h.words]; rfl
theorem Sq.w0 {n t : Nat} {q a : Int} {wr : Bool} {A : Ar} (h : Sq n t q a wr A) : wordAt A.words 0 = (t : Int) := by rw [h.words]; rfl
theorem Sq.w1 {n t : Nat} {q a : Int} {wr : Bool} {A : Ar} (h : Sq n t q a wr A) : wordAt A.words 1 = (((t + 1) / 2 : Nat) : Int) := by rw [h.words]; rfl
theorem Sq.w2 {n t : Nat} {q a : Int} {wr : Bool} {A : Ar} (h : Sq n t q a wr A) : wordAt A.words 2 = ((t / 2 : Nat) : Int) := by rw [h.words]; rfl

theorem Sq.read {n t : Nat} {q a : Int} {wr : Bool} {A : Ar} (h : Sq n t q a wr A) (k l : Nat) : Sq (n + 1) t q a wr ((A.touch 0 k none).touch 0 l none) :=
  ⟨h.words, Nat.le_succ_of_le h.le, ((h.few.touch 0 k none (by omega)).touch 0 l none (by omega)).mono (by omega), h.odd, h.look⟩

theorem Sq.saw {n t : Nat} {q a q' a' : Int} {wr : Bool} {A : Ar} (h : Sq n t q a wr A) (hl : q' = -1 ∨ ∃ s : Nat, q' = (s : Int) ∧ a' = ((s / 2 : Nat) : Int)) : Sq n t q' a' wr A :=
  ⟨h.words, h.le, h.few, h.odd, hl⟩

theorem Sq.read1 {n t : Nat} {q a : Int} {wr : Bool} {A : Ar} (h : Sq n t q a wr A) (k : Nat) : Sq (n + 1) t q a wr (A.touch 0 k none) :=
  ⟨h.words, Nat.le_succ_of_le h.le, (h.few.touch 0 k none (by omega)).mono (by omega), h.odd, h.look⟩

/-- The writer begins. -/
theorem Sq.begins {n t : Nat} {q a : Int} {A : Ar} (h : Sq n t q a false A) : Sq (n + 1) (t + 1) q a true ((A.touch 1 0 (some ((t : Int) + 1))).touch 1 1 (some ((((t + 1) / 2 : Nat) : Int) + 1))) := by
  have ho : t % 2 = 0 := by have := h.odd; simp at this; omega
  refine ⟨?_, by have := h.le; omega, ((h.few.touch 1 0 _ (by omega)).touch 1 1 _ (by omega)).mono (by omega), by simp; omega, h.look⟩
  rw [touch_words, touch_words, h.words]
  show [(t : Int) + 1, (((t + 1) / 2 : Nat) : Int) + 1, ((t / 2 : Nat) : Int)] = _
  rw [show (t : Int) + 1 = ((t + 1 : Nat) : Int) by omega, show (((t + 1) / 2 : Nat) : Int) + 1 = (((t + 1 + 1) / 2 : Nat) : Int) by omega, show t / 2 = (t + 1) / 2 by omega]

/-- The writer ends. -/
theorem Sq.ends {n t : Nat} {q a : Int} {A : Ar} (h : Sq n t q a true A) : Sq (n + 1) (t + 1) q a false ((A.touch 1 0 (some ((t : Int) + 1))).touch 1 2 (some (((t / 2 : Nat) : Int) + 1))) := by
  have ho : t % 2 = 1 := by have := h.odd; simpa using this
  refine ⟨?_, by have := h.le; omega, ((h.few.touch 1 0 _ (by omega)).touch 1 2 _ (by omega)).mono (by omega), by simp; omega, h.look⟩
  rw [touch_words, touch_words, h.words]
  show [(t : Int) + 1, (((t + 1) / 2 : Nat) : Int), ((t / 2 : Nat) : Int) + 1] = _
  rw [show (t : Int) + 1 = ((t + 1 : Nat) : Int) by omega, show ((t / 2 : Nat) : Int) + 1 = (((t + 1) / 2 : Nat) : Int) by omega, show (t + 1 + 1) / 2 = (t + 1) / 2 by omega]

/-- A look whose number is the word's has seen no writer. -/
theorem Sq.fine {n t : Nat} {q a : Int} {wr : Bool} {A : Ar} (h : Sq n t q a wr A) (he : (t : Int) = q) : ((t / 2 : Nat) : Int) = a := by
  rcases h.look with h1 | ⟨s, h1, h2⟩
  · omega
  · have : t = s := by omega
    rw [h2, this]

set_option maxRecDepth 100000 in
set_option maxHeartbeats 8000000 in
theorem walk_none (a : Option Addr) (cap0 : Nat) (w : World) :
    Calls Try.prog 5 #[.slice a 0 cap0] w fun e w' => e = .returned (.bool true) ∧ Kept [] w w' := by
  go_enter Try.func5, Try.ntmps5
  go_wp2_with fail
  refine (awake_any w).mono ?_
  rintro e w1 ⟨rfl, hK⟩
  have HK : Hid (_) := hK
  clear hK
  go_wp2_with fail
  refine (h_new w1 3 2 (by omega) (by omega) (by omega) (by omega)).mono ?_
  rintro e w2 ⟨b, rfl, hm⟩
  have HI : Hid (Kept [] w w2) := HK.out.trans hm.1 (by simp)
  clear hm
  go_wp2_with fail
  go_loopw [8] (fun i wr => i = .int .i64 0 ∧ Hid (Kept [] w wr)) (fun _ _ => 0)
  case atStart => exact ⟨rfl, HI⟩
  case round =>
    obtain ⟨rfl, HR⟩ := hrel
    clear HI
    go_wp2_with (first
      | (go_at_call 8; refine (num _ _).mono ?_; rintro e w' ⟨rfl, rfl⟩))
    go_ret
    exact ⟨rfl, HR.out⟩

set_option maxRecDepth 100000 in
set_option maxHeartbeats 8000000 in
theorem walk_some (bb off len0 cap0 : Nat) (z0 : List Int) (w : World) (hl : len0 ≤ 9223372036854775807) (hc : ∀ i, i < len0 → w.cell? ⟨bb, off + i, none⟩ = some (.int .i64 (wordAt z0 i))) :
    Calls Try.prog 5 #[.slice (some ⟨bb, off, none⟩) len0 cap0] w fun e w' => e = .returned (.bool true) ∧ Kept [] w w' := by
  have HCE : Hid (∀ i, i < len0 → w.cell? ⟨bb, off + i, none⟩ = some (.int .i64 (wordAt z0 i))) := hc
  clear hc
  go_enter Try.func5, Try.ntmps5
  go_wp2_with fail
  refine (awake_any w).mono ?_
  rintro e w1 ⟨rfl, hK⟩
  have HK : Hid (_) := hK
  clear hK
  go_wp2_with fail
  refine (h_new w1 3 2 (by omega) (by omega) (by omega) (by omega)).mono ?_
  rintro e w2 ⟨b, rfl, hm⟩
  have HI : Hid (∃ A t, Hs [] w1 w2 b A ∧ Sq 0 t (-1) 0 false A) := ⟨_, 0, hm, ⟨rfl, by omega, Few.fresh 3 2, rfl, Or.inl rfl⟩⟩
  clear hm
  go_wp2_with fail
  go_loopw [5, 6, 7, 8] (fun sq a0 wf i wr => ∃ n : Nat, ∃ q a : Int, ∃ wb : Bool, n ≤ len0 ∧ n ≤ 100 ∧ i = .int .i64 (n : Int) ∧ sq = .int .i64 q ∧ a0 = .int .i64 a ∧ wf = .bool wb ∧ Hid (∃ A t, Hs [] w1 wr b A ∧ Sq n t q a wb A)) (fun _ _ _ i _ => (100 - intOf i).toNat)
  case atStart => exact ⟨0, -1, 0, false, by omega, by omega, rfl, rfl, rfl, rfl, HI⟩
  case round =>
    obtain ⟨n, q, a, wb, hn, hn2, rfl, rfl, rfl, rfl, HR⟩ := hrel
    obtain ⟨A, t, hm, hT⟩ := HR.out
    have htn := hT.le
    have HT : Hid (Sq n t q a wb A) := hT
    clear hT HR HI
    by_cases hlt : n < len0 ∧ n < 100
    · obtain ⟨hlt, hlt2⟩ := hlt
      have hcell : wr.cell? ⟨bb, off + n, none⟩ = some (.int .i64 (wordAt z0 n)) := (HK.out.trans hm.1 (by simp)).cell (HCE.out n hlt) (by simp)
      have i0 : (0 : Int) ≤ (n : Int) := by omega
      have i1 : (n : Int) < (len0 : Int) := by omega
      have HM : Hid (Hs [] w1 wr b A) := hm
      have HL : Hid (∀ c, (A.traces.getD c []).length < 500000) := fun c => Nat.lt_of_le_of_lt (HT.out.few.many c) (by omega)
      clear hm
      obtain ⟨z, hz⟩ : ∃ z, bits .and .i64 (wordAt z0 n) 3 = z := ⟨_, rfl⟩
      have h03 : 0 ≤ z ∧ z < 4 := by rw [← hz, i64_and3]; omega
      by_cases h0 : z = 0
      · subst h0
        have e1 : wrap64 ((t : Int) + 1) = (t : Int) + 1 := wrap_small _ (by omega) (by omega)
        have e2 : wrap64 ((((t + 1) / 2 : Nat) : Int) + 1) = (((t + 1) / 2 : Nat) : Int) + 1 := wrap_small _ (by omega) (by omega)
        have e3 : wrap64 (((t / 2 : Nat) : Int) + 1) = ((t / 2 : Nat) : Int) + 1 := wrap_small _ (by omega) (by omega)
        have HE : Hid (_ ∧ _ ∧ _) := ⟨e1, e2, e3⟩
        clear e1 e2 e3
        cases wb with
        | false =>
          go_wp2_with fail
          refine (turn_any HM.out 1 0 (by omega) (by rw [HT.out.few.cores]; omega) (by omega) (by rw [HT.out.len]; omega) (Nat.lt_trans (HL.out 1) (by omega))).mono ?_
          rintro e w4 ⟨rfl, hm5⟩
          rw [show wrap64 (wordAt A.words (0 : Int).toNat + 1) = (t : Int) + 1 from by rw [show (0 : Int).toNat = 0 from rfl, HT.out.w0]; exact HE.out.1] at hm5
          have HN : Hid (Hs [] w1 w4 b (A.touch 1 0 (some ((t : Int) + 1)))) := hm5
          clear hm5
          go_wp2_with fail
          refine (h_add HN.out 1 1 1 (by omega) (by rw [touch_cores, HT.out.few.cores]; omega) (by omega) (by rw [touch_words, List.length_set, HT.out.len]; omega) (by have := (HT.out.few.touch 1 0 (some ((t : Int) + 1)) (by omega)).many 1; rw [show (1 : Int).toNat = 1 from rfl]; omega)).mono ?_
          rintro e w5 ⟨rfl, hm6⟩
          have ew : wordAt (A.touch 1 0 (some ((t : Int) + 1))).words (1 : Int).toNat = (((t + 1) / 2 : Nat) : Int) := by rw [touch_words, HT.out.words]; rfl
          rw [ew, HE.out.2.1] at hm6
          rw [ew, HE.out.2.1]
          have HN2 : Hid (Hs [] w1 w5 b ((A.touch 1 0 (some ((t : Int) + 1))).touch 1 1 (some ((((t + 1) / 2 : Nat) : Int) + 1)))) := hm6
          clear hm6 ew
          generalize (((t + 1) / 2 : Nat) : Int) + 1 = y
          go_wp2_with fail
          go_roundw
          case rel => exact ⟨n + 1, q, a, true, by omega, by omega, by go_num, rfl, rfl, rfl, ⟨_, t + 1, HN2.out, HT.out.begins⟩⟩
          case measure => simp [intOf]; omega
        | true =>
          go_wp2_with fail
          refine (turn_any HM.out 1 0 (by omega) (by rw [HT.out.few.cores]; omega) (by omega) (by rw [HT.out.len]; omega) (Nat.lt_trans (HL.out 1) (by omega))).mono ?_
          rintro e w4 ⟨rfl, hm5⟩
          rw [show wrap64 (wordAt A.words (0 : Int).toNat + 1) = (t : Int) + 1 from by rw [show (0 : Int).toNat = 0 from rfl, HT.out.w0]; exact HE.out.1] at hm5
          have HN : Hid (Hs [] w1 w4 b (A.touch 1 0 (some ((t : Int) + 1)))) := hm5
          clear hm5
          go_wp2_with fail
          refine (h_add HN.out 1 2 1 (by omega) (by rw [touch_cores, HT.out.few.cores]; omega) (by omega) (by rw [touch_words, List.length_set, HT.out.len]; omega) (by have := (HT.out.few.touch 1 0 (some ((t : Int) + 1)) (by omega)).many 1; rw [show (1 : Int).toNat = 1 from rfl]; omega)).mono ?_
          rintro e w5 ⟨rfl, hm6⟩
          have ew : wordAt (A.touch 1 0 (some ((t : Int) + 1))).words (2 : Int).toNat = ((t / 2 : Nat) : Int) := by rw [touch_words, HT.out.words]; rfl
          rw [ew, HE.out.2.2] at hm6
          rw [ew, HE.out.2.2]
          have HN2 : Hid (Hs [] w1 w5 b ((A.touch 1 0 (some ((t : Int) + 1))).touch 1 2 (some (((t / 2 : Nat) : Int) + 1)))) := hm6
          clear hm6 ew
          generalize ((t / 2 : Nat) : Int) + 1 = y
          go_wp2_with fail
          go_roundw
          case rel => exact ⟨n + 1, q, a, false, by omega, by omega, by go_num, rfl, rfl, rfl, ⟨_, t + 1, HN2.out, HT.out.ends⟩⟩
          case measure => simp [intOf]; omega
      · have t0 : (z == 0) = false := by simp [h0]
        by_cases h3 : z = 3
        · subst h3
          clear h0 t0 h03
          go_wp2_with fail
          refine (same_word HM.out 0 0 q (by omega) (by rw [HT.out.few.cores]; omega) (by omega) (by rw [HT.out.len]; omega) (Nat.lt_trans (HL.out 0) (by omega))).mono ?_
          rintro e w4 ⟨rfl, hm5⟩
          rw [show wordAt A.words (0 : Int).toNat = (t : Int) from HT.out.w0]
          have HN : Hid (Hs [] w1 w4 b (A.touch 0 0 none)) := hm5
          clear hm5
          go_wp2_with fail
          refine (h_load HN.out 0 2 (by omega) (by rw [touch_cores, HT.out.few.cores]; omega) (by omega) (by rw [touch_words0, HT.out.len]; omega) (by have := (HT.out.few.touch 0 0 none (by omega)).many 0; rw [show (0 : Int).toNat = 0 from rfl]; omega)).mono ?_
          rintro e w5 ⟨rfl, hm6⟩
          rw [show wordAt (A.touch 0 0 none).words (2 : Int).toNat = ((t / 2 : Nat) : Int) from HT.out.w2]
          have HN2 : Hid (Hs [] w1 w5 b ((A.touch 0 0 none).touch 0 2 none)) := hm6
          clear hm6
          obtain ⟨y, hy⟩ : ∃ y : Int, ((t / 2 : Nat) : Int) = y := ⟨_, rfl⟩
          rw [hy]
          by_cases he : (t : Int) = q
          · have hya : y = a := by rw [← hy]; exact HT.out.fine he
            subst hya
            have t1 : ((t : Int) == q) = true := by simp [he]
            clear he hy
            go_wp2_with (first
              | (go_at_call 8; refine (num _ _).mono ?_; rintro e w' ⟨rfl, rfl⟩))
            go_roundw
            case rel => exact ⟨n + 1, q, _, wb, by omega, by omega, by go_num, rfl, rfl, rfl, ⟨_, t, HN2.out, HT.out.read 0 2⟩⟩
            case measure => simp [intOf]; omega
          · have t1 : ((t : Int) == q) = false := by simp [he]
            clear he hy
            go_wp2_with (first
              | (go_at_call 8; refine (num _ _).mono ?_; rintro e w' ⟨rfl, rfl⟩))
            go_roundw
            case rel => exact ⟨n + 1, q, _, wb, by omega, by omega, by go_num, rfl, rfl, rfl, ⟨_, t, HN2.out, HT.out.read 0 2⟩⟩
            case measure => simp [intOf]; omega
        · have h12 : z = 1 ∨ z = 2 := by omega
          clear h0 t0 h3 h03
          rcases h12 with rfl | rfl
          · go_wp2_with fail
            refine (begin_any HM.out 0 0 (by omega) (by rw [HT.out.few.cores]; omega) (by omega) (by rw [HT.out.len]; omega) (Nat.lt_trans (HL.out 0) (by omega))).mono ?_
            rintro e w4 ⟨rfl, hm5⟩
            rw [show wordAt A.words (0 : Int).toNat = (t : Int) from HT.out.w0]
            have HN : Hid (Hs [] w1 w4 b (A.touch 0 0 none)) := hm5
            clear hm5
            cases wb with
            | true =>
              have t1 : ((t : Int) % 2 == 0) = false := by have := HT.out.odd; simp at this; simp; omega
              go_wp2_with (first
                | (go_at_call 8; refine (num _ _).mono ?_; rintro e w' ⟨rfl, rfl⟩))
              go_roundw
              case rel => exact ⟨n + 1, -1, a, true, by omega, by omega, by go_num, rfl, rfl, rfl, ⟨_, t, HN.out, (HT.out.read1 0).saw (Or.inl rfl)⟩⟩
              case measure => simp [intOf]; omega
            | false =>
              have ho : t % 2 = 0 := by have := HT.out.odd; simp at this; omega
              have t1 : ((t : Int) % 2 == 0) = true := by simp; omega
              go_wp2_with (first
                | (go_at_call 8; refine (num _ _).mono ?_; rintro e w' ⟨rfl, rfl⟩)
                | (go_at_call 19; refine (h_load HN.out 0 1 (by omega) (by rw [touch_cores, HT.out.few.cores]; omega) (by omega) (by rw [touch_words0, HT.out.len]; omega) (by have := (HT.out.few.touch 0 0 none (by omega)).many 0; rw [show (0 : Int).toNat = 0 from rfl]; omega)).mono ?_; rintro e w5 ⟨rfl, hm6⟩; rw [show wordAt (A.touch 0 0 none).words (1 : Int).toNat = (((t + 1) / 2 : Nat) : Int) from HT.out.w1]; have HN2 : Hid (Hs [] w1 w5 b ((A.touch 0 0 none).touch 0 1 none)) := hm6; clear hm6; obtain ⟨y, hy⟩ : ∃ y : Int, (((t + 1) / 2 : Nat) : Int) = y := ⟨_, rfl⟩; rw [hy]; have HY : Hid (_ = _) := hy; clear hy))
              go_roundw
              case rel => exact ⟨n + 1, (t : Int), y, false, by omega, by omega, by go_num, rfl, rfl, rfl, ⟨_, t, HN2.out, (HT.out.read 0 1).saw (Or.inr ⟨t, rfl, by rw [← HY.out]; omega⟩)⟩⟩
              case measure => simp [intOf]; omega
          · go_wp2_with fail
            refine (begin_any HM.out 0 0 (by omega) (by rw [HT.out.few.cores]; omega) (by omega) (by rw [HT.out.len]; omega) (Nat.lt_trans (HL.out 0) (by omega))).mono ?_
            rintro e w4 ⟨rfl, hm5⟩
            rw [show wordAt A.words (0 : Int).toNat = (t : Int) from HT.out.w0]
            have HN : Hid (Hs [] w1 w4 b (A.touch 0 0 none)) := hm5
            clear hm5
            cases wb with
            | true =>
              have t1 : ((t : Int) % 2 == 0) = false := by have := HT.out.odd; simp at this; simp; omega
              go_wp2_with (first
                | (go_at_call 8; refine (num _ _).mono ?_; rintro e w' ⟨rfl, rfl⟩))
              go_roundw
              case rel => exact ⟨n + 1, -1, a, true, by omega, by omega, by go_num, rfl, rfl, rfl, ⟨_, t, HN.out, (HT.out.read1 0).saw (Or.inl rfl)⟩⟩
              case measure => simp [intOf]; omega
            | false =>
              have ho : t % 2 = 0 := by have := HT.out.odd; simp at this; omega
              have t1 : ((t : Int) % 2 == 0) = true := by simp; omega
              go_wp2_with (first
                | (go_at_call 8; refine (num _ _).mono ?_; rintro e w' ⟨rfl, rfl⟩)
                | (go_at_call 19; refine (h_load HN.out 0 1 (by omega) (by rw [touch_cores, HT.out.few.cores]; omega) (by omega) (by rw [touch_words0, HT.out.len]; omega) (by have := (HT.out.few.touch 0 0 none (by omega)).many 0; rw [show (0 : Int).toNat = 0 from rfl]; omega)).mono ?_; rintro e w5 ⟨rfl, hm6⟩; rw [show wordAt (A.touch 0 0 none).words (1 : Int).toNat = (((t + 1) / 2 : Nat) : Int) from HT.out.w1]; have HN2 : Hid (Hs [] w1 w5 b ((A.touch 0 0 none).touch 0 1 none)) := hm6; clear hm6; obtain ⟨y, hy⟩ : ∃ y : Int, (((t + 1) / 2 : Nat) : Int) = y := ⟨_, rfl⟩; rw [hy]; have HY : Hid (_ = _) := hy; clear hy))
              go_roundw
              case rel => exact ⟨n + 1, (t : Int), y, false, by omega, by omega, by go_num, rfl, rfl, rfl, ⟨_, t, HN2.out, (HT.out.read 0 1).saw (Or.inr ⟨t, rfl, by rw [← HY.out]; omega⟩)⟩⟩
              case measure => simp [intOf]; omega
    · have HF : Hid (Kept [] w wr) := HK.out.trans hm.1 (by simp)
      clear hm HT
      by_cases hx : n < len0
      · have i1 : (n : Int) < (len0 : Int) := by omega
        have i2 : ¬ (n : Int) < 100 := by omega
        go_wp2_with (first
          | (go_at_call 8; refine (num _ _).mono ?_; rintro e w' ⟨rfl, rfl⟩))
        go_ret
        exact ⟨rfl, HF.out⟩
      · have i1 : ¬ (n : Int) < (len0 : Int) := by omega
        go_wp2_with (first
          | (go_at_call 8; refine (num _ _).mono ?_; rintro e w' ⟨rfl, rfl⟩))
        go_ret
        exact ⟨rfl, HF.out⟩

theorem walk (a0 : Option Addr) (len0 cap0 : Nat) (z0 : List Int) (w : World) (w0 : IsRow .i64 w a0 len0 cap0 z0) :
    Calls Try.prog 5 #[.slice a0 len0 cap0] w fun e w' => e = .returned (.bool true) ∧ Below w.heap.size w w' := by
  by_cases h0 : len0 = 0
  · subst h0
    exact (walk_none a0 cap0 w).mono fun e w' ⟨he, hk⟩ => ⟨he, hk.below (Nat.le_refl _) (by simp)⟩
  · rcases w0 with ⟨_, h1, _, _⟩ | ⟨x, rfl, hl, hm, hz, hcell, _⟩
    · exact absurd h1 h0
    · obtain ⟨bb, off, rfl, hc⟩ := ints_at hcell (by omega)
      refine (walk_some bb off len0 cap0 z0 w (by unfold maxLen at hm; omega) (fun i hi => ?_)).mono fun e w' ⟨he, hk⟩ => ⟨he, hk.below (Nat.le_refl _) (by simp)⟩
      exact hc i (by omega)

set_option maxRecDepth 100000 in
theorem lifted (os : Os) (started : os.Started) (H : Type) (enc : TypeId × Value → H) :
    ReturnsInHanded {} Try.checked os 5 .any (Rows.lockSeqSpec.pre6 enc Try.prog Try.f5 Rows.lockSeqRow.domain false) (Rows.lockSeqSpec.post enc Try.prog Try.f5 false true false false) := by
  refine returnsInHanded_of_change (C := Try.checked) own started (by kernel_rfl) Try.func5
    (ChangeSpec.witness6 (enc := enc) (C := Try.checked) false ⟨#[], #[.slice none 0 0], []⟩ 8 (by kernel_rfl) (by kernel_rfl) (by kernel_rfl) (by kernel_rfl)) ?_
  intro W base args ds gs before hval0 hW hcnd _
  have hval : ∀ (j : Nat) t v, Try.f5.params[j]? = some t → args[j]? = some v → Value.okWide Try.prog W .any base t v := hval0
  have hW' := hW
  obtain ⟨p, q, hA0, hV, rfl, hfz, hnd⟩ := hW
  have hA : DataW.TrodAll enc Try.prog W 0 (fun _ => true) true Try.f5.params.toList args.toList ds p := hA0
  rw [Try.params5] at hA hval
  obtain ⟨v0, vs0, d0, ds0, p0, q0, hargs, rfl, rfl, h0, r0⟩ := trodAll_cons hA
  obtain ⟨rfl, rfl, rfl⟩ := trodAll_nil r0
  obtain rfl : args = #[v0] := by cases args; simp_all
  obtain ⟨rfl, rfl⟩ := trodVars_none hV
  obtain ⟨a0, len0, cap0, rfl⟩ := okWide_slice Try.underlying28 (hval 0 28 v0 rfl rfl)
  have k0 := h0
  have lt0 : ∀ x ∈ p0, x.block < W.heap.size := by obtain ⟨m, hm⟩ := k0; exact DataW.trod_lt m _ _ _ hm
  obtain ⟨z0, w0⟩ : ∃ zs, IsRow .i64 W a0 len0 cap0 zs := by
    obtain ⟨fuel, hf⟩ := h0
    rcases open_ints Try.underlying28 Try.underlying3 (by kernel_rfl) hf with ⟨hcs, _⟩ | ⟨x, l, c, zs, hcs, _, hl, hm, hz, _, hcell, hwz⟩
    · simp [Value.cells] at hcs
      obtain ⟨rfl, rfl, rfl⟩ := hcs
      exact ⟨[], .inl ⟨rfl, rfl, rfl, rfl⟩⟩
    · simp [Value.cells] at hcs
      obtain ⟨rfl, rfl, rfl⟩ := hcs
      exact ⟨zs, .inr ⟨_, rfl, hl, hm, by simpa using hz, hcell, hwz⟩⟩
  clear hA0 hval0
  refine (walk a0 len0 cap0 z0 W w0).mono fun e W' ⟨he, bel⟩ => ?_
  subst he
  exact ⟨_, rfl, _, _, _, [], _, [], hW', trodAll_mk1 (shut_bool Try.underlying4 _), (trodAll_cons_mk (Below.trod laidOut (by kernel_rfl) (of_decide_eq_true (by kernel_rfl)) k0 bel lt0) trodAll_mk0), rfl, bel.frame _, fun h => by cases h⟩

theorem over : Rows.lockSeqRow.holds Try.pinned (OpenSpec.ofChange Rows.lockSeqSpec) :=
  OpenClaim.holds_of_wide 5 Try.f5 rfl rfl rfl rfl rfl rfl rfl ⟨rfl, rfl, rfl, rfl, rfl⟩ rfl rfl rfl rfl rfl (by kernel_rfl) Try.func5 (by kernel_rfl)
    (of_decide_eq_true (by kernel_rfl)) (by unfold Func.isWrapper; first | (rw [if_pos (by decide +kernel)]; kernel_rfl) | (rw [if_neg (by decide +kernel)]; exact ⟨rfl, rfl⟩))
    (fun os started H enc _ => lifted os started H enc)

end Go.Proofs.Ytokljdljdkbbnaa.lockSeq

namespace Go.Proofs.Ytokljdljdkbbnaa
theorem lockSeq_holds : Rows.LockSeqSaid := lockSeq.over
#print axioms lockSeq_holds
end Go.Proofs.Ytokljdljdkbbnaa
