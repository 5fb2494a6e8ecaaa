/-
  Num, modulo, readyPlaces, Pick, and the reference's Pick.
-/
import Derived.Test.YtehfmmmkhjjjfaaZeros
namespace Go.Proofs.Ytehfmmmkhjjjfaa
open Go.RowKit
set_option linter.unusedSimpArgs false
set_option linter.unusedVariables false

theorem num (n : Int) (w : World) : Calls Try.prog 19 #[.int .i64 n] w fun e w' => e = .returned (.int .i64 n) ∧ w' = w := by
  go_enter Try.func19, Try.ntmps19
  go_wp2
  go_ret
  exact ⟨rfl, rfl⟩

/-- A pick, unsigned, modulo n. -/
def umod (p n : Int) : Int := p % 18446744073709551616 % n

theorem umod_lt {p n : Int} (h : 1 ≤ n) : 0 ≤ umod p n ∧ umod p n < n := ⟨Int.emod_nonneg _ (by omega), Int.emod_lt_of_pos _ (by omega)⟩

theorem umod_wrap (p n : Int) (h1 : 1 ≤ n) (h2 : n ≤ 9223372036854775807) : wrap64 ((IntKind.u64.wrap p).tmod n) = umod p n := by
  have hu := umod_lt (p := p) h1
  have e : IntKind.u64.wrap p = p % 18446744073709551616 := by simp [IntKind.wrap, IntKind.signed, IntKind.bits]
  rw [e, Int.tmod_eq_emod_of_nonneg (by omega)]
  unfold umod at *
  unfold wrap64
  omega

theorem modulo (p n : Int) (w : World) (h1 : 1 ≤ n) (h2 : n ≤ 9223372036854775807) : Calls Try.prog 22 #[.int .i64 p, .int .i64 n] w fun e w' => e = .returned (.int .i64 (umod p n)) ∧ w' = w := by
  have hu := umod_lt (p := p) h1
  go_enter Try.func22, Try.ntmps22
  go_wp2
  go_ret
  refine ⟨?_, rfl⟩
  show Ending.returned (.int .i64 (wrap64 ((IntKind.u64.wrap p).tmod n))) = _
  rw [umod_wrap p n h1 h2]

/-- The places of the first n that are ready, rising. -/
def places (B : Nat → Bool) : Nat → List Int
  | 0 => []
  | k + 1 => if B k then places B k ++ [(k : Int)] else places B k

theorem places_length (B : Nat → Bool) : ∀ n, (places B n).length ≤ n
  | 0 => Nat.le_refl _
  | k + 1 => by
    have := places_length B k
    simp only [places]
    split
    · simp; omega
    · omega

set_option maxHeartbeats 1000000 in
theorem readyPlaces {w : World} {a : Option Addr} {n c : Nat} {B : Nat → Bool} (h : Bl w a n B) (hn : n ≤ 1048576) :
    Calls Try.prog 21 #[.slice a n c] w fun e w' => ∃ v, e = .returned v ∧ Own w' w.heap.size v (places B n) ∧ Still w w' := by
  have HB : Hid (_) := h
  clear h
  obtain ⟨i0, hi, hz0, hz1, hz2⟩ := info_parts info3
  go_enter Try.func21, Try.ntmps21
  go_wp2_with fail
  go_loopw [3, 8] (fun v i wr => ∃ k : Nat, k ≤ n ∧ i = .int .i64 (k : Int) ∧ Hid (Own wr w.heap.size v (places B k) ∧ Still w wr)) (fun _ i _ => (n - intOf i).toNat)
  case atStart => exact ⟨0, by omega, rfl, Own.nil _ _, Below.refl _ _⟩
  case round =>
    obtain ⟨k, hk, rfl, HR⟩ := hrel
    by_cases hlt : k < n
    · have k0 : (0 : Int) ≤ (k : Int) := by omega
      have k1 : (k : Int) < (n : Int) := by omega
      obtain ⟨b, off, rfl, hc0⟩ := HB.out k hlt
      have hc := cell_still HR.out.2 hc0
      clear hc0
      cases hb : B k with
      | true =>
        rw [hb] at hc
        have HE : Hid (_ = _) := hb
        clear hb
        have hkl : (places B k).length + 1 ≤ 1048576 := by have := places_length B k; omega
        obtain ⟨hO, hS⟩ := HR.out
        have hO' := World.ownsRow.alloc hO (.cells #[.int .i64 (k : Int)] 3)
        have hB1 : w.heap.size ≤ (wr.alloc (.cells #[.int .i64 (k : Int)] 3)).heap.size := by have := hS.size; simp; omega
        have HS : Hid (Still w (wr.alloc (.cells #[.int .i64 (k : Int)] 3))) := hS.alloc hS.size _
        clear hO hS HR
        go_wp2_with (first
          | (at_builtin; refine wpList_append_lies _ rfl _ _ 23 rfl w.heap.size 3 i0 (.int .i64 0) 1 8 Try.underlying23 hi hz0 hz1 hz2 rfl (by omega) _ _ _ rfl hO' ⟨wr.heap.size, 0, none⟩ 1 1 [.int .i64 (k : Int)] rfl rfl (cell_one_new _ _ _) (by simp [Value.oneCell']) (by omega) ?h63 ?hby hB1 (wr.heap.size + 1) (by simp) ?_))
        case h63 => unfold maxLen; omega
        case hby => omega
        intro g cap w1 hown hgrow hat hltg
        have HN : Hid (Own w1 w.heap.size (.slice (some ⟨g, 0, none⟩) ((places B k).length + 1) cap) (places B (k + 1)) ∧ Still w w1) := ⟨by
          simp only [places, HE.out, if_true]
          exact Own.more hown, HS.out.grown hgrow hB1 (fun x hx => (World.ownsRow.lt hO' x hx).1)⟩
        clear hown hgrow hat hltg hO' HS
        go_wp2_with fail
        go_roundw
        case rel => exact ⟨k + 1, by omega, by go_num, HN⟩
        case measure => simp [intOf]; omega
      | false =>
        rw [hb] at hc
        have HE : Hid (_ = _) := hb
        clear hb
        go_wp2_with fail
        go_roundw
        case rel =>
          refine ⟨k + 1, by omega, by go_num, ?_⟩
          have := HR.out
          show _ ∧ _
          simpa [places, HE.out] using this
        case measure => simp [intOf]; omega
    · have k1 : ¬ (k : Int) < (n : Int) := by omega
      have : k = n := by omega
      subst this
      go_wp2
      go_ret
      exact ⟨_, rfl, HR.out⟩

end Go.Proofs.Ytehfmmmkhjjjfaa
