/-
  Proved: for every ready and pick, of bulk at most 1048576 together, the law SchedReady returns true. No other condition.
-/
import Derived.Test.YtehfmmmkhjjjfaaRows
import Derived.Test.YtehfmmmkhjjjfaaAwake
import Derived.Test.YtehfmmmkhjjjfaaOpen
import Derived.WalkKit
import Derived.ProofKit
import Derived.OpenShut
import Derived.ShutString
import Derived.ChangeOld
import Derived.Below
import Derived.JoinedCond
import Derived.Deep.Slices
namespace Go.Proofs.Ytehfmmmkhjjjfaa.schedReady
open Go.ChangeShapes Go.WideShapes Go.ChangeAt Go.RowKit
set_option linter.unusedVariables false

theorem own : ownKnob Try.prog.godebug = none := by kernel_rfl
theorem laidOut : laidOutB Try.prog = true := by kernel_rfl

theorem places_mem (B : Nat → Bool) : ∀ n, ∀ x ∈ places B n, ∃ q : Nat, x = (q : Int) ∧ q < n ∧ B q = true
  | 0, x, h => by simp [places] at h
  | k + 1, x, h => by
    simp only [places] at h
    split at h
    · rename_i hb
      rcases List.mem_append.1 h with h1 | h1
      · obtain ⟨q, h2, h3, h4⟩ := places_mem B k x h1
        exact ⟨q, h2, by omega, h4⟩
      · simp at h1
        exact ⟨k, h1, by omega, hb⟩
    · obtain ⟨q, h2, h3, h4⟩ := places_mem B k x h
      exact ⟨q, h2, by omega, h4⟩

theorem places_sorted (B : Nat → Bool) : ∀ n, (places B n).Pairwise (· < ·)
  | 0 => by simp [places]
  | k + 1 => by
    simp only [places]
    split
    · refine List.pairwise_append.2 ⟨places_sorted B k, by simp, fun x hx y hy => ?_⟩
      obtain ⟨q, h2, h3, _⟩ := places_mem B k x hx
      simp at hy
      omega
    · exact places_sorted B k

theorem getD_mem {ps : List Int} {i : Nat} (h : i < ps.length) : ps.getD i 0 ∈ ps := by
  simp only [List.getD, List.getElem?_eq_getElem h]
  exact List.getElem_mem h

theorem getD_sorted {ps : List Int} (hs : ps.Pairwise (· < ·)) {i j : Nat} (hij : i < j) (hj : j < ps.length) : ps.getD i 0 < ps.getD j 0 := by
  simp only [List.getD, List.getElem?_eq_getElem hj, List.getElem?_eq_getElem (show i < ps.length by omega)]
  exact List.pairwise_iff_getElem.1 hs i j (by omega) hj hij

theorem pickAt_nat {ps : List Int} {i : Nat} (h : i < ps.length) (hp : ps.length ≤ 1048576) : pickAt ps (i : Int) = ps.getD i 0 := by
  have e : umod (i : Int) (ps.length : Int) = (i : Int) := by
    unfold umod
    rw [Int.emod_eq_of_lt (by omega) (by omega), Int.emod_eq_of_lt (by omega) (by omega)]
  rw [pickAt, e]
  rfl

theorem pickAt_mem {ps : List Int} (h : 0 < ps.length) (p : Int) : pickAt ps p ∈ ps := by
  obtain ⟨l0, l1⟩ := umod_lt (p := p) (n := ps.length) (by omega)
  exact getD_mem (by omega)

set_option maxRecDepth 100000 in
set_option maxHeartbeats 4000000 in
theorem walk (a : Option Addr) (n c : Nat) (B : Nat → Bool) (p : Int) (w : World) (hB : Bl w a n B) (hn : n ≤ 1048576) (hp : (Lit.int .i64 p).wf = true) :
    Calls Try.prog 6 #[.slice a n c, .int .i64 p] w fun e w' => e = .returned (.bool true) ∧ Below w.heap.size w w' := by
  clear hp
  have HB : Hid (_) := hB
  clear hB
  go_enter Try.func6, Try.ntmps6
  go_wp2_with fail
  refine (awake_any w).mono ?_
  rintro e w1 ⟨rfl, hS⟩
  have HS1 : Hid (_) := hS
  clear hS
  go_wp2_with fail
  go_loopw [5, 6] (fun m i wr => ∃ k : Nat, k ≤ n ∧ i = .int .i64 (k : Int) ∧ w1 = wr ∧ m = .int .i64 ((places B k).length : Int)) (fun _ i _ => (n - intOf i).toNat)
  case atStart => exact ⟨0, by omega, rfl, rfl, rfl⟩
  case round =>
    obtain ⟨k, hk, rfl, rfl, rfl⟩ := hrel
    by_cases hlt : k < n
    · have k0 : (0 : Int) ≤ (k : Int) := by omega
      have k1 : (k : Int) < (n : Int) := by omega
      have hpl := places_length B k
      obtain ⟨b, off, rfl, hc0⟩ := HB.out k hlt
      have hc := cell_still HS1.out hc0
      clear hc0
      cases hb : B k with
      | true =>
        rw [hb] at hc
        have hlen : (places B (k + 1)).length = (places B k).length + 1 := by simp [places, hb]
        have HE : Hid (_ = _) := hlen
        clear hb hlen
        generalize (places B k).length = q at *
        go_wp2_with fail
        go_roundw
        case rel => exact ⟨k + 1, by omega, by go_num, by trivial, by rw [HE.out]; go_num⟩
        case measure => simp [intOf]; omega
      | false =>
        rw [hb] at hc
        have hlen : (places B (k + 1)).length = (places B k).length := by simp [places, hb]
        have HE : Hid (_ = _) := hlen
        clear hb hlen
        generalize (places B k).length = q at *
        go_wp2_with fail
        go_roundw
        case rel => exact ⟨k + 1, by omega, by go_num, by trivial, by rw [HE.out]⟩
        case measure => simp [intOf]; omega
    · have k1 : ¬ (k : Int) < (n : Int) := by omega
      have : k = n := by omega
      subst this
      have HF : Hid (_ ∧ _ ∧ _) := ⟨places_mem B k, places_sorted B k, places_length B k⟩
      go_wp2_with fail
      refine (pick_any (c := c) (Bl.still HB.out HS1.out) hn p).mono ?_
      rintro e w2 ⟨rfl, hS⟩
      have HS2 : Hid (_) := Still.then HS1.out hS
      clear hS
      obtain ⟨ps, hps⟩ : ∃ ps, places B k = ps := ⟨_, rfl⟩
      rw [hps] at HF ⊢
      have HP : Hid (_ = _) := hps
      clear hps
      have hpl := HF.out.2.2
      by_cases h0 : ps = []
      · subst h0
        rw [pickAns_nil]
        go_wp2_with fail
        go_loopw [9, 10] (fun l i wr => l = .int .i64 (-1) ∧ i = .int .i64 0 ∧ w2 = wr) (fun _ _ _ => 0)
        case atStart => exact ⟨rfl, rfl, rfl⟩
        case round =>
          obtain ⟨rfl, rfl, rfl⟩ := hrel
          go_wp2_with (first
            | (go_at_call 19; refine (num _ _).mono ?_; rintro e w' ⟨rfl, rfl⟩))
          go_ret
          exact ⟨rfl, HS2.out⟩
      · have hl : 0 < ps.length := List.length_pos_iff.2 h0
        rw [pickAns_some h0]
        obtain ⟨q, hq, hqn, hBq⟩ := HF.out.1 _ (pickAt_mem hl p)
        rw [hq]
        obtain ⟨b, off, rfl, hc0⟩ := HB.out q hqn
        have hc := cell_still HS2.out hc0
        rw [hBq] at hc
        have q0 : (0 : Int) ≤ (q : Int) := by omega
        have q1 : (q : Int) < (k : Int) := by omega
        have q2 : decide ((q : Int) < 0) = false := by simp
        have q3 : decide ((k : Int) ≤ (q : Int)) = false := by simp; omega
        have q5 : decide (k ≤ q) = false := by simp; omega
        have q4 : decide ((0 : Int) < (ps.length : Int)) = true := by simp; omega
        have HQ : Hid (_ ∧ _) := ⟨hq, hBq⟩
        clear hc0 hq hBq
        go_wp2_with fail
        clear hc
        go_loopw [9, 10] (fun l i wr => ∃ (j : Nat) (y : Int), j ≤ ps.length ∧ i = .int .i64 (j : Int) ∧ l = .int .i64 y ∧ Hid (Still w wr ∧ ∀ x, j ≤ x → x < ps.length → y < ps.getD x 0)) (fun _ i _ => (ps.length - intOf i).toNat)
        case atStart =>
          refine ⟨0, -1, by omega, rfl, rfl, HS2.out, fun x _ hx => ?_⟩
          obtain ⟨z, hz, _, _⟩ := HF.out.1 _ (getD_mem hx)
          omega
        case round =>
          obtain ⟨j, y, hj, rfl, rfl, HR⟩ := hrel
          by_cases hjl : j < ps.length
          · have j1 : (j : Int) < (ps.length : Int) := by omega
            go_wp2_with fail
            refine (pick_any (c := c) (Bl.still HB.out HR.out.1) hn (j : Int)).mono ?_
            rintro e w3 ⟨rfl, hS⟩
            rw [HP.out, pickAns_some h0, pickAt_nat hjl (by omega)]
            have hy := HR.out.2 j (Nat.le_refl _) hjl
            have HN : Hid (Still w w3 ∧ ∀ x, j + 1 ≤ x → x < ps.length → ps.getD j 0 < ps.getD x 0) := ⟨Still.then HR.out.1 hS, fun x h1 h2 => getD_sorted HF.out.2.1 (by omega) h2⟩
            clear hS HR
            obtain ⟨z, hz⟩ : ∃ z, ps.getD j 0 = z := ⟨_, rfl⟩
            rw [hz] at hy HN ⊢
            have hle : decide (z ≤ y) = false := by simp; omega
            clear hz
            go_wp2_with fail
            go_roundw
            case rel => exact ⟨j + 1, z, by omega, by go_num, rfl, HN⟩
            case measure => simp [intOf]; omega
          · have j1 : ¬ (j : Int) < (ps.length : Int) := by omega
            go_wp2_with (first
              | (go_at_call 19; refine (num _ _).mono ?_; rintro e w' ⟨rfl, rfl⟩))
            go_ret
            exact ⟨rfl, HR.out.1⟩

theorem contract (H : Type) (enc : TypeId × Value → H) (W : World) (base : Nat) (args : Array Value) (ds gs : List (DataW H)) (before : List MemPlace)
    (hval : ∀ (j : Nat) t v, Try.f6.params[j]? = some t → args[j]? = some v → Value.okWide Try.prog W .any base t v)
    (hW : DataW.Whole enc Try.prog Try.f6.params.toList Rows.schedReadySpec.vars false W args.toList ds gs before) (hk : Rows.uptoSmall H (ds ++ gs) = true) :
    Calls Try.prog 6 args W fun e W' => ∃ v, e = .returned v ∧ Rows.schedReadySpec.post enc Try.prog Try.f6 false true false false W args v W' := by
  have hW' := hW
  obtain ⟨p, q, hA0, hV, rfl, hfz, hnd⟩ := hW
  have hA : DataW.TrodAll enc Try.prog W 0 (fun _ => true) true Try.f6.params.toList args.toList ds p := hA0
  rw [Try.params6] at hA hval
  obtain ⟨v0, vs0, d0, ds0, p0, q0, hargs, rfl, rfl, h0, r0⟩ := trodAll_cons hA
  obtain ⟨v1, vs1, d1, ds1, p1, q1, rfl, rfl, rfl, h1, r1⟩ := trodAll_cons r0
  obtain ⟨rfl, rfl, rfl⟩ := trodAll_nil r1
  obtain rfl : args = #[v0, v1] := by cases args; simp_all
  obtain ⟨rfl, rfl⟩ := trodVars_none hV
  have hsm := small_of hk
  simp only [List.append_nil, Rows.uptoBulkAll] at hsm
  obtain ⟨a0, len0, cap0, rfl⟩ := okWide_slice Try.underlying22 (hval 0 22 v0 rfl rfl)
  have k0 := h0
  have lt0 : ∀ x ∈ p0, x.block < W.heap.size := by obtain ⟨m, hm⟩ := k0; exact DataW.trod_lt m _ _ _ hm
  obtain ⟨s0, b0, w0⟩ := open_bl h0
  obtain ⟨a1, rfl, rfl, rfl, w1⟩ := open_int Try.underlying3 (hval 1 3 v1 rfl rfl) h1
  clear hA0
  refine (walk a0 len0 cap0 b0 a1 W w0 (by omega) w1).mono fun e W' ⟨he, bel⟩ => ?_
  subst he
  exact ⟨_, rfl, _, _, _, [], _, [], hW', trodAll_mk1 (shut_bool Try.underlying4 _), (trodAll_cons_mk (Below.trod laidOut (by kernel_rfl) (of_decide_eq_true (by kernel_rfl)) k0 bel lt0) (trodAll_cons_mk (shut_int Try.underlying3 w1) trodAll_mk0)), rfl, bel.frame _, fun h => by cases h⟩

set_option maxRecDepth 100000 in
theorem lifted (os : Os) (started : os.Started) (H : Type) (enc : TypeId × Value → H) (F : Stop.Interp) :
    ReturnsInHanded {} Try.checked os 6 .any ((Rows.OpenSpec.upto Rows.schedReadySpec).pre6 enc Try.prog Try.f6 Rows.schedReadyUptoRow.domain false) (((Rows.OpenSpec.upto Rows.schedReadySpec).at F).post enc Try.prog Try.f6 false true false false) := by
  refine returnsInHanded_of_cond (C := Try.checked) (s := Rows.OpenSpec.upto Rows.schedReadySpec) (k := Rows.uptoSmall) rfl own started (by kernel_rfl) Try.func6
    (OpenSpec.witness (enc := enc) (C := Try.checked) (s := Rows.OpenSpec.upto Rows.schedReadySpec) (k := Rows.uptoSmall) rfl false ⟨#[], #[.slice none 0 0, .int .i64 0], []⟩ 8 (by kernel_rfl) (by kernel_rfl) (by kernel_rfl)
      (x := ([.nil, .lit (.int .i64 0)], [], [])) (by kernel_rfl) rfl (by kernel_rfl)) ?_
  intro W base args ds gs before hval hW _ hk _
  exact contract H enc W base args ds gs before hval hW hk

theorem over : Rows.schedReadyUptoRow.holds Try.pinned (Rows.OpenSpec.upto Rows.schedReadySpec) :=
  OpenClaim.holds_of_cond 6 Try.f6 rfl rfl rfl rfl rfl rfl rfl ⟨rfl, rfl, rfl, rfl, rfl⟩ rfl rfl rfl rfl rfl (by kernel_rfl) Try.func6 (by kernel_rfl)
    (of_decide_eq_true (by kernel_rfl)) (by unfold Func.isWrapper; first | (rw [if_pos (by decide +kernel)]; kernel_rfl) | (rw [if_neg (by decide +kernel)]; exact ⟨rfl, rfl⟩))
    (fun os started H enc _ F => lifted os started H enc F)

end Go.Proofs.Ytehfmmmkhjjjfaa.schedReady

namespace Go.Proofs.Ytehfmmmkhjjjfaa
theorem schedReady_holds : Rows.SchedReadyUptoSaid := schedReady.over
#print axioms schedReady_holds
end Go.Proofs.Ytehfmmmkhjjjfaa
