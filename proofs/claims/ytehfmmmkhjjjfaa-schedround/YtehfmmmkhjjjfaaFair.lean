/-
  Fair.
-/
import Derived.Test.YtehfmmmkhjjjfaaFit
namespace Go.Proofs.Ytehfmmmkhjjjfaa
open Go.RowKit
set_option linter.unusedSimpArgs false
set_option linter.unusedVariables false

/-- A bool comes back, that tells whether F. -/
def Says (F : Prop) (e : Ending) : Prop := ∃ r : Bool, e = .returned (.bool r) ∧ (r = true ↔ F)

theorem says_true {F : Prop} {e : Ending} (he : e = .returned (.bool true)) (h : F) : Says F e := ⟨true, he, by simpa using h⟩
theorem says_false {F : Prop} {e : Ending} (he : e = .returned (.bool false)) (h : ¬ F) : Says F e := ⟨false, he, by simpa using h⟩

theorem fair_low {w : World} {a a2 : Option Addr} {n m c c2 : Nat} (W : Int) (hW : W < 1) :
    Calls Try.prog 17 #[.slice a n c, .slice a2 m c2, .int .i64 W] w fun e w' => e = .returned (.bool true) ∧ w' = w := by
  go_enter Try.func17, Try.ntmps17
  go_wp2
  go_ret
  exact ⟨rfl, rfl⟩

set_option maxHeartbeats 4000000 in
theorem fair_main {w : World} {a a2 : Option Addr} {n m c c2 : Nat} {L : Nat → Nat} {B : Nat → Nat → Bool} {P : Nat → Int} (h : Gr w a n L B) (h2 : Il w a2 m P) (hn : n ≤ 1048576) (hm : m ≤ 1048576) (hL : ∀ r, r < n → L r ≤ 1048576) (W : Int) (hW : 1 ≤ W) (hW2 : W ≤ 9223372036854775807)
    (K : Nat) (hK1 : K ≤ n) (hK2 : K ≤ m) (hmin : ∀ W : World, (Builtin.min_ #[3, 3] 3 #[.int .i64 (n : Int), .int .i64 (m : Int)]).run Try.prog W = .ok (.int .i64 (K : Int)) W) :
    Calls Try.prog 17 #[.slice a n c, .slice a2 m c2, .int .i64 W] w fun e w' => Says (Fine L B P K W) e ∧ Still w w' := by
  have dW : decide (W < 1) = false := by simp; omega
  have HH : Hid (_ ∧ _ ∧ _) := ⟨h, h2, hL⟩
  clear h h2 hL
  go_enter Try.func17, Try.ntmps17
  go_wp2_with fail
  go_loopw [7, 18] (fun v i wr => ∃ s : Nat, s ≤ K ∧ i = .int .i64 (s : Int) ∧ Hid (∃ xs, Own wr w.heap.size v xs ∧ Still w wr ∧ Top L B P W s xs)) (fun _ i _ => (K - intOf i).toNat)
  case atStart => exact ⟨0, by omega, rfl, [], Own.nil _ _, Below.refl _ _, Top.start L B P hW⟩
  case round =>
    obtain ⟨s, hs, rfl, HR⟩ := hrel
    by_cases hlt : s < K
    · have k0 : (0 : Int) ≤ (s : Int) := by omega
      have k1 : (s : Int) < (K : Int) := by omega
      have k2 : (s : Int) < (n : Int) := by omega
      have k3 : (s : Int) < (m : Int) := by omega
      obtain ⟨xs, hO, hS, hT⟩ := HR.out
      obtain ⟨b, off, A, C, rfl, x0, hBl⟩ := HH.out.1 s (by omega)
      have x0lt := World.block_lt_of_cell? w _ x0
      obtain ⟨b2, off2, rfl, p0⟩ := HH.out.2.1 s (by omega)
      have hLs := HH.out.2.2 s (by omega)
      have x1 := cell_still hS x0
      have HX : Hid (_ ∧ _ ∧ _ ∧ _) := ⟨hS, hT, p0, hBl⟩
      clear hT p0 x0 HR hBl
      have hH := hS.size
      clear hS
      go_wp2_with fail
      refine (fit_any hO HX.out.2.1.len (L s) hLs hH).mono ?_
      rintro e w2 ⟨v2, rfl, hO2, hB2⟩
      have hS2 : Still w w2 := Below.trans HX.out.1 hB2
      have x2 : w2.cell? ⟨b, off + s, none⟩ = some (.slice A (L s) C) := by rw [Below.cell hB2 x0lt]; exact x1
      have HM : Hid (∃ ys, Own w2 w.heap.size v2 ys ∧ Still w w2 ∧ Mid L B P W s 0 ys) := ⟨_, hO2, hS2, HX.out.2.1.mid⟩
      have HZ : Hid (_ ∧ _) := HX.out.2.2
      have HL : Hid (_) := hLs
      clear hO2 hB2 hS2 x1 x0lt hH hO HX hLs
      go_wp2_with fail
      clear x2
      go_loopw [33] (fun i wr => ∃ c : Nat, c ≤ L s ∧ i = .int .i64 (c : Int) ∧ Hid (∃ ys, Own wr w.heap.size v2 ys ∧ Still w wr ∧ Mid L B P W s c ys)) (fun i _ => (L s - intOf i).toNat)
      case atStart => exact ⟨0, by omega, rfl, HM⟩
      case round =>
        clear HM
        obtain ⟨c, hc, rfl, HR⟩ := hrel
        by_cases hcl : c < L s
        · obtain ⟨ys, hO, hS, hM⟩ := HR.out
          have hyl := hM.len
          obtain ⟨b3, off3, rfl, q0⟩ := HZ.out.2 c hcl
          have q1 := cell_still hS q0
          have p1 := cell_still hS HZ.out.1
          obtain ⟨g, cap, rfl⟩ : ∃ g cap, v2 = .slice (some ⟨g, 0, none⟩) (L s) cap := by
            rcases hO.form with ⟨_, h2⟩ | ⟨g, cap, cur, h1, _⟩
            · subst h2; simp at hyl; omega
            · exact ⟨g, cap, by rw [h1, hyl]⟩
          obtain ⟨y0, y1, y2⟩ := hO.cell c (by omega)
          rw [hM.rest c (Nat.le_refl _) hcl] at y0
          have c0 : (0 : Int) ≤ (c : Int) := by omega
          have c1 : (c : Int) < (L s : Int) := by omega
          have HN : Hid (_ ∧ _ ∧ _) := ⟨hO, hS, hM⟩
          have hLs := HL.out
          clear hO hS HR q0
          cases hb : B s c with
          | false =>
            rw [hb] at q1
            have HE : Hid (run L B P (s + 1) c = 0) := run_not fun h => by have := h.2.1; rw [hb] at this; cases this
            clear hb hM hyl
            go_wp2_with fail
            go_roundw
            case rel =>
              refine ⟨c + 1, by omega, by go_num, _, HN.out.1.set c (by have := HN.out.2.2.len; omega) 0, HN.out.2.1.setCell y2 _, HN.out.2.2.next hcl (by rw [HE.out]; rfl) (by omega)⟩
            case measure => simp [intOf]; omega
          | true =>
            rw [hb] at q1
            by_cases hp : P s = (c : Int)
            · have HE : Hid (run L B P (s + 1) c = 0) := run_not fun h => h.2.2 hp
              rw [hp] at p1
              clear hb hM hyl hp
              go_wp2_with fail
              go_roundw
              case rel =>
                refine ⟨c + 1, by omega, by go_num, _, HN.out.1.set c (by have := HN.out.2.2.len; omega) 0, HN.out.2.1.setCell y2 _, HN.out.2.2.next hcl (by rw [HE.out]; rfl) (by omega)⟩
              case measure => simp [intOf]; omega
            · have hE : run L B P (s + 1) c = run L B P s c + 1 := run_bad ⟨hcl, hb, hp⟩
              have hR := hM.ahead s (Nat.le_refl _) c
              have hp2 : ((c : Int) == P s) = false := by simp; exact fun e => hp e.symm
              obtain ⟨z, hz⟩ : ∃ z : Nat, run L B P s c = z := ⟨_, rfl⟩
              rw [hz] at y0 hE hR
              have z1 : (z : Int) + 1 < 9223372036854775808 := by omega
              have y3 : (wr.setCell ⟨g, c, none⟩ (.int .i64 ((z : Int) + 1))).cell? ⟨g, c, none⟩ = some (.int .i64 ((z : Int) + 1)) := ((HN.out.1.set c (by omega) ((z : Int) + 1)).cell c (by simp; omega)).1.trans (by rw [getD_set _ _ _ _ (by omega), if_pos rfl])
              have HE : Hid (_ = _) := hE
              have HP : Hid (_) := hp
              clear hb hM hyl hE hz hp
              generalize P s = ps at *
              by_cases hWz : (z : Int) + 1 = W
              · have hw : ((z : Int) + 1 == W) = true := by simpa using hWz
                clear hWz
                go_wp2
                go_ret
                refine ⟨says_false rfl ?_, HN.out.2.1.setCell y2 _⟩
                intro hF
                have h1 := hF (s + 1) (by omega) c
                rw [HE.out] at h1
                have : (z : Int) + 1 = W := by simpa using hw
                omega
              · have hw : ((z : Int) + 1 == W) = false := by simpa using hWz
                go_wp2_with fail
                go_roundw
                case rel =>
                  refine ⟨c + 1, by omega, by go_num, _, HN.out.1.set c (by have := HN.out.2.2.len; omega) ((z : Int) + 1), HN.out.2.1.setCell y2 _, HN.out.2.2.next hcl (by rw [HE.out]; simp) (by omega)⟩
                case measure => simp [intOf]; omega
        · have c1 : ¬ (c : Int) < (L s : Int) := by omega
          have : c = L s := by omega
          subst this
          obtain ⟨ys, hO, hS, hM⟩ := HR.out
          have HN : Hid (_ ∧ _ ∧ _) := ⟨hO, hS, hM.top HL.out hW⟩
          clear HR hO hS hM
          go_wp2_with fail
          go_roundw
          case rel => exact ⟨s + 1, by omega, by go_num, _, HN.out⟩
          case measure => simp [intOf]; omega
    · have k1 : ¬ (s : Int) < (K : Int) := by omega
      have : s = K := by omega
      subst this
      obtain ⟨xs, hO, hS, hT⟩ := HR.out
      have HX : Hid (_ ∧ _) := ⟨hS, hT.ahead⟩
      clear HR hO hS hT
      go_wp2
      go_ret
      exact ⟨says_true rfl HX.out.2, HX.out.1⟩

theorem run_min (n m : Nat) (w : World) : (Builtin.min_ #[3, 3] 3 #[.int .i64 (n : Int), .int .i64 (m : Int)]).run Try.prog w = .ok (.int .i64 ((min n m : Nat) : Int)) w := by
  have e : (if m < n then (m : Int) else (n : Int)) = ((min n m : Nat) : Int) := by
    split <;> omega
  simp [Builtin.min_, Builtin.min2]
  exact e

theorem fair_any {w : World} {a a2 : Option Addr} {n m c c2 : Nat} {L : Nat → Nat} {B : Nat → Nat → Bool} {P : Nat → Int} (h : Gr w a n L B) (h2 : Il w a2 m P) (hn : n ≤ 1048576) (hm : m ≤ 1048576) (hL : ∀ r, r < n → L r ≤ 1048576) (W : Int) (hW2 : W ≤ 9223372036854775807) :
    Calls Try.prog 17 #[.slice a n c, .slice a2 m c2, .int .i64 W] w fun e w' => Says (W < 1 ∨ Fine L B P (min n m) W) e ∧ Still w w' := by
  by_cases hW : W < 1
  · refine (fair_low W hW).mono ?_
    rintro e w' ⟨rfl, rfl⟩
    exact ⟨says_true rfl (Or.inl hW), Below.refl _ _⟩
  · refine (fair_main h h2 hn hm hL W (by omega) hW2 (min n m) (by omega) (by omega) (run_min n m)).mono ?_
    rintro e w' ⟨⟨r, rfl, hr⟩, hS⟩
    exact ⟨⟨r, rfl, by rw [hr]; exact ⟨Or.inr, fun h => h.resolve_left hW⟩⟩, hS⟩

end Go.Proofs.Ytehfmmmkhjjjfaa
