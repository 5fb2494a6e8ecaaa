/-
  The reference's Fair: its walk.
-/
import Derived.Test.YtehfmmmkhjjjfaaRefFair
namespace Go.Proofs.Ytehfmmmkhjjjfaa
open Go.RowKit
set_option linter.unusedSimpArgs false
set_option linter.unusedVariables false

/-- A window below 1, or wider than there are steps. -/
theorem rfair_out {w : World} {a a2 : Option Addr} {n m c c2 : Nat} (W : Int) (K : Nat) (hmin : ∀ W : World, (Builtin.min_ #[3, 3] 3 #[.int .i64 (n : Int), .int .i64 (m : Int)]).run Try.prog W = .ok (.int .i64 (K : Int)) W) (hW : W < 1 ∨ (K : Int) < W) :
    Calls Try.prog 18 #[.slice a n c, .slice a2 m c2, .int .i64 W] w fun e w' => e = .returned (.bool true) ∧ w' = w := by
  by_cases h1 : W < 1
  · have d1 : decide (1 ≤ W) = false := by simp; omega
    clear hW
    go_enter Try.func18, Try.ntmps18
    go_wp2_with fail
    go_loopw [8] (fun i wr => i = .int .i64 0 ∧ wr = w) (fun _ _ => 0)
    case atStart => exact ⟨rfl, rfl⟩
    case round =>
      obtain ⟨rfl, rfl⟩ := hrel
      go_wp2
      go_ret
      exact ⟨rfl, rfl⟩
  · have d1 : decide (1 ≤ W) = true := by simp; omega
    have d2 : decide (W ≤ (K : Int)) = false := by simp; omega
    clear hW
    go_enter Try.func18, Try.ntmps18
    go_wp2_with fail
    go_loopw [8] (fun i wr => i = .int .i64 0 ∧ wr = w) (fun _ _ => 0)
    case atStart => exact ⟨rfl, rfl⟩
    case round =>
      obtain ⟨rfl, rfl⟩ := hrel
      go_wp2
      go_ret
      exact ⟨rfl, rfl⟩

set_option maxHeartbeats 4000000 in
theorem rfair_main {w : World} {a a2 : Option Addr} {n m c c2 : Nat} {L : Nat → Nat} {B : Nat → Nat → Bool} {P : Nat → Int} (h : Gr w a n L B) (h2 : Il w a2 m P) (hn : n ≤ 1048576) (hm : m ≤ 1048576) (hL : ∀ r, r < n → L r ≤ 1048576) (q D K : Nat) (hq : 1 ≤ q) (hK : K = D + q) (hK1 : K ≤ n) (hK2 : K ≤ m)
    (hmin : ∀ W : World, (Builtin.min_ #[3, 3] 3 #[.int .i64 (n : Int), .int .i64 (m : Int)]).run Try.prog W = .ok (.int .i64 (K : Int)) W) :
    Calls Try.prog 18 #[.slice a n c, .slice a2 m c2, .int .i64 (q : Int)] w fun e w' => Says (Fine L B P K (q : Int)) e ∧ w' = w := by
  have d1 : decide ((1 : Int) ≤ (q : Int)) = true := by simp; omega
  have d2 : decide ((q : Int) ≤ (K : Int)) = true := by simp; omega
  have d3 : (K : Int) - (q : Int) = (D : Int) := by omega
  have HH : Hid (_ ∧ _ ∧ _) := ⟨h, h2, hL⟩
  have HK : Hid (_ = _) := hK
  have HF : Hid (_) := fine_iff L B P K q hq
  have hD : D + q ≤ 1048576 := by omega
  clear h h2 hL hK
  go_enter Try.func18, Try.ntmps18
  go_wp2_with fail
  go_loopw [8] (fun i wr => ∃ k : Nat, k ≤ D + 1 ∧ i = .int .i64 (k : Int) ∧ w = wr ∧ Hid (Clear L B P q k)) (fun i _ => (D + 1 - intOf i).toNat)
  case atStart => exact ⟨0, by omega, rfl, rfl, fun k hk => by omega⟩
  case round =>
    obtain ⟨i, hi, rfl, rfl, HC⟩ := hrel
    by_cases hlt : i ≤ D
    · have k1 : decide ((i : Int) ≤ (D : Int)) = true := by simp; omega
      have k0 : (0 : Int) ≤ (i : Int) := by omega
      have k2 : (i : Int) < (n : Int) := by have := HK.out; omega
      obtain ⟨b, off, A, C, rfl, x0, hBl⟩ := HH.out.1 i (by omega)
      have hLi := HH.out.2.2 i (by omega)
      clear hBl
      go_wp2_with fail
      clear d1 d2 d3 k1
      go_loopw [9] (fun v wr => ∃ k : Nat, k ≤ L i ∧ v = .int .i64 (k : Int) ∧ w = wr ∧ Hid (Clear2 L B P q i k)) (fun v _ => (L i - intOf v).toNat)
      case atStart => exact ⟨0, by omega, rfl, rfl, HC.out, fun d hd => by omega⟩
      case round =>
        obtain ⟨c, hc, rfl, rfl, HC2⟩ := hrel
        by_cases hcl : c < L i
        · have c1 : (c : Int) < (L i : Int) := by omega
          go_wp2_with fail
          clear x0
          go_loopw [10, 11, 12] (fun va vs v wr => ∃ (j : Nat) (al so : Bool), i ≤ j ∧ j ≤ i + q ∧ va = .bool al ∧ vs = .bool so ∧ v = .int .i64 (j : Int) ∧ w = wr ∧ Hid (Seen L B P i c j al so)) (fun _ _ v _ => (i + q - intOf v).toNat)
          case atStart => exact ⟨i, true, false, by omega, by omega, rfl, rfl, rfl, rfl, Seen.start L B P i c⟩
          case round =>
            obtain ⟨j, al, so, hij, hjq, rfl, rfl, rfl, rfl, HS⟩ := hrel
            by_cases hj : j < i + q
            · have j1 : (j : Int) < (i : Int) + (q : Int) := by omega
              have j2 : (0 : Int) ≤ (j : Int) := by omega
              have j3 : (j : Int) < (m : Int) := by have := HK.out; omega
              obtain ⟨b2, off2, rfl, p0⟩ := HH.out.2.1 j (by have := HK.out; omega)
              have hjn : j < n := by have := HK.out; omega
              have hpe : (P j == (c : Int)) = decide (P j = (c : Int)) := by
                by_cases e : P j = (c : Int) <;> simp [e]
              have HPE : Hid (_ = _) := hpe
              clear hpe
              cases al with
              | true =>
                go_wp2_with fail
                refine (is_any (cp := _) HH.out.1 hn j c hjn).mono ?_
                rintro e w' ⟨rfl, rfl⟩
                obtain ⟨rv, hrv⟩ : ∃ rv, rdy L B j c = rv := ⟨_, rfl⟩
                rw [hrv]
                have HRV : Hid (_ = _) := hrv
                clear hrv
                cases so with
                | true =>
                  go_wp2_with fail
                  go_roundw
                  case rel => exact ⟨j + 1, rv, true, by omega, by omega, rfl, rfl, by go_num, by trivial, HS.out.next hij (by rw [HRV.out]; rfl) (by simp)⟩
                  case measure => simp [intOf]; omega
                | false =>
                  go_wp2_with fail
                  go_roundw
                  case rel => exact ⟨j + 1, rv, _, by omega, by omega, rfl, rfl, by go_num, by trivial, HS.out.next hij (by rw [HRV.out]; rfl) (by rw [HPE.out]; simp)⟩
                  case measure => simp [intOf]; omega
              | false =>
                cases so with
                | true =>
                  go_wp2_with fail
                  go_roundw
                  case rel => exact ⟨j + 1, false, true, by omega, by omega, rfl, rfl, by go_num, by trivial, HS.out.next hij (by simp) (by simp)⟩
                  case measure => simp [intOf]; omega
                | false =>
                  go_wp2_with fail
                  go_roundw
                  case rel => exact ⟨j + 1, false, _, by omega, by omega, rfl, rfl, by go_num, by trivial, HS.out.next hij (by simp) (by rw [HPE.out]; simp)⟩
                  case measure => simp [intOf]; omega
            · have j1 : ¬ (j : Int) < (i : Int) + (q : Int) := by omega
              have : j = i + q := by omega
              subst this
              have HB : Hid (_) := HS.out.bad
              have HC3 : Hid (¬ (∀ k, i ≤ k → k < i + q → Bad L B P k c) → Clear2 L B P q i (c + 1)) := fun hnot => ⟨HC.out, fun d hd => by
                by_cases e : d = c
                · subst e; exact hnot
                · exact HC2.out.2 d (by omega)⟩
              cases al with
              | true =>
                cases so with
                | true =>
                  go_wp2_with fail
                  go_roundw
                  case rel => exact ⟨c + 1, by omega, by go_num, by trivial, HC3.out fun hall => by have := HB.out.2 hall; simp at this⟩
                  case measure => simp [intOf]; omega
                | false =>
                  go_wp2
                  go_ret
                  refine ⟨says_false rfl fun hF => ?_, rfl⟩
                  exact HF.out.1 hF i (by have := HK.out; omega) c hcl (HB.out.1 rfl)
              | false =>
                go_wp2_with fail
                go_roundw
                case rel => exact ⟨c + 1, by omega, by go_num, by trivial, HC3.out fun hall => by have := HB.out.2 hall; simp at this⟩
                case measure => simp [intOf]; omega
        · have c1 : ¬ (c : Int) < (L i : Int) := by omega
          have : c = L i := by omega
          subst this
          have HN : Hid (Clear L B P q (i + 1)) := fun k hk d hd => by
            by_cases e : k = i
            · subst e; exact HC2.out.2 d hd
            · exact HC.out k (by omega) d hd
          go_wp2_with fail
          go_roundw
          case rel => exact ⟨i + 1, by omega, by go_num, by trivial, HN⟩
          case measure => simp [intOf]; omega
    · have k1 : decide ((i : Int) ≤ (D : Int)) = false := by simp; omega
      have HN : Hid (Fine L B P K (q : Int)) := HF.out.2 fun k hk d hd => HC.out k (by have := HK.out; omega) d hd
      go_wp2
      go_ret
      exact ⟨says_true rfl HN.out, rfl⟩

theorem rfair_any {w : World} {a a2 : Option Addr} {n m c c2 : Nat} {L : Nat → Nat} {B : Nat → Nat → Bool} {P : Nat → Int} (h : Gr w a n L B) (h2 : Il w a2 m P) (hn : n ≤ 1048576) (hm : m ≤ 1048576) (hL : ∀ r, r < n → L r ≤ 1048576) (W : Int) :
    Calls Try.prog 18 #[.slice a n c, .slice a2 m c2, .int .i64 W] w fun e w' => Says (W < 1 ∨ Fine L B P (min n m) W) e ∧ w' = w := by
  by_cases hW : W < 1 ∨ ((min n m : Nat) : Int) < W
  · refine (rfair_out W _ (run_min n m) hW).mono ?_
    rintro e w' ⟨rfl, rfl⟩
    refine ⟨says_true rfl ?_, rfl⟩
    rcases hW with h1 | h1
    · exact Or.inl h1
    · refine Or.inr fun s hs c => ?_
      have := run_le L B P s c
      omega
  · obtain ⟨q, rfl⟩ : ∃ q : Nat, W = (q : Int) := ⟨W.toNat, by omega⟩
    refine (rfair_main h h2 hn hm hL q (min n m - q) (min n m) (by omega) (by omega) (by omega) (by omega) (run_min n m)).mono ?_
    rintro e w' ⟨⟨r, rfl, hr⟩, rfl⟩
    exact ⟨⟨r, rfl, by rw [hr]; exact ⟨Or.inr, fun h => h.resolve_left (by omega)⟩⟩, rfl⟩

end Go.Proofs.Ytehfmmmkhjjjfaa
