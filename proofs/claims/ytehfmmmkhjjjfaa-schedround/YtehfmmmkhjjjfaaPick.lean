/-
  Pick, and the reference's Pick.
-/
import Derived.Test.YtehfmmmkhjjjfaaLeaf
namespace Go.Proofs.Ytehfmmmkhjjjfaa
open Go.RowKit
set_option linter.unusedSimpArgs false
set_option linter.unusedVariables false

/-- Of the places that are ready, that of a pick; 0, if none is. -/
def pickAt (ps : List Int) (p : Int) : Int := ps.getD (umod p ps.length).toNat 0

def pickAns (ps : List Int) (p : Int) : Value := .tuple #[.int .i64 (pickAt ps p), .bool (!ps.isEmpty)]

theorem pickAns_nil (p : Int) : pickAns [] p = .tuple #[.int .i64 0, .bool false] := by simp [pickAns, pickAt]

theorem pickAns_some {ps : List Int} (h : ps ≠ []) (p : Int) : pickAns ps p = .tuple #[.int .i64 (pickAt ps p), .bool true] := by simp [pickAns, h]

/-- The cell that a pick reads. -/
theorem pick_cell {w : World} {H cap : Nat} {a : Option Addr} {ps : List Int} (h : Own w H (.slice a ps.length cap) ps) (h0 : 0 < ps.length) (p : Int) :
    ∃ g m : Nat, a = some ⟨g, 0, none⟩ ∧ m < ps.length ∧ umod p ps.length = (m : Int) ∧ w.cell? ⟨g, m, none⟩ = some (.int .i64 (pickAt ps p)) := by
  obtain ⟨l0, l1⟩ := umod_lt (p := p) (n := ps.length) (by omega)
  have hm : (umod p ps.length).toNat < ps.length := by omega
  rcases h.form with ⟨_, h2⟩ | ⟨g, c, cur, h1, _, _, _, _, _, _⟩
  · subst h2; simp at h0
  · simp only [Value.slice.injEq] at h1
    obtain ⟨rfl, -, rfl⟩ := h1
    exact ⟨g, _, rfl, hm, by omega, (h.cell _ hm).1⟩

set_option maxHeartbeats 1000000 in
theorem pick_any {w : World} {a : Option Addr} {n c : Nat} {B : Nat → Bool} (h : Bl w a n B) (hn : n ≤ 1048576) (p : Int) :
    Calls Try.prog 9 #[.slice a n c, .int .i64 p] w fun e w' => e = .returned (pickAns (places B n) p) ∧ Still w w' := by
  have hpl := places_length B n
  go_enter Try.func9, Try.ntmps9
  go_wp2_with fail
  refine (readyPlaces (c := c) h hn).mono ?_
  rintro e w1 ⟨v, rfl, hO, hS⟩
  have HS : Hid (_) := hS
  obtain ⟨ps, hps⟩ : ∃ ps, places B n = ps := ⟨_, rfl⟩
  rw [hps] at hO hpl
  have HP : Hid (places B n = ps) := hps
  clear hps
  obtain ⟨av, cv, rfl⟩ := hO.isSlice
  clear hS
  by_cases h0 : ps = []
  · subst h0
    have HO : Hid (_) := hO
    clear hO
    go_wp2
    go_ret2
    exact ⟨by rw [HP.out, pickAns_nil]; rfl, HS.out⟩
  · have hl : 0 < ps.length := List.length_pos_iff.2 h0
    have hl1 : (1 : Int) ≤ (ps.length : Int) := by omega
    have hl2 : ((ps.length : Int) == 0) = false := by simp; omega
    obtain ⟨g, m, rfl, hm, hu, hcell⟩ := pick_cell hO hl p
    have HO : Hid (_) := hO
    clear hO
    go_wp2_with (first
      | (go_at_call 22; refine (modulo _ _ _ hl1 (by omega)).mono ?_; rintro e w' ⟨rfl, rfl⟩; rw [hu]))
    go_ret2
    exact ⟨by rw [HP.out, pickAns_some h0]; rfl, HS.out⟩

set_option maxHeartbeats 1000000 in
theorem refPick {w : World} {a : Option Addr} {n c : Nat} {B : Nat → Bool} (h : Bl w a n B) (hn : n ≤ 1048576) (p : Int) :
    Calls Try.prog 10 #[.slice a n c, .int .i64 p] w fun e w' => e = .returned (pickAns (places B n) p) ∧ Still w w' := by
  have HB : Hid (_) := h
  clear h
  obtain ⟨i0, hi, hz0, hz1, hz2⟩ := info_parts info3
  go_enter Try.func10, Try.ntmps10
  go_wp2_with fail
  go_loopw [6, 7] (fun v i wr => ∃ k : Nat, k ≤ n ∧ i = .int .i64 (k : Int) ∧ Hid (Own wr w.heap.size v (places B k) ∧ Still w wr)) (fun _ i _ => (n - intOf i).toNat)
  case atStart => exact ⟨0, by omega, rfl, Own.nil _ _, Below.refl _ _⟩
  case round =>
    obtain ⟨k, hk, rfl, HR⟩ := hrel
    by_cases hlt : k < n
    · have k0 : (0 : Int) ≤ (k : Int) := by omega
      have k1 : (k : Int) < (n : Int) := by omega
      obtain ⟨b, off, rfl, hc0⟩ := HB.out k hlt
      have hc := cell_still HR.out.2 hc0
      clear hc0
      cases hb : B k with
      | true =>
        rw [hb] at hc
        have HE : Hid (_ = _) := hb
        clear hb
        have hkl : (places B k).length + 1 ≤ 1048576 := by have := places_length B k; omega
        obtain ⟨hO, hS⟩ := HR.out
        have hO' := World.ownsRow.alloc hO (.cells #[.int .i64 (k : Int)] 3)
        have hB1 : w.heap.size ≤ (wr.alloc (.cells #[.int .i64 (k : Int)] 3)).heap.size := by have := hS.size; simp; omega
        have HS : Hid (Still w (wr.alloc (.cells #[.int .i64 (k : Int)] 3))) := hS.alloc hS.size _
        clear hO hS HR
        go_wp2_with (first
          | (at_builtin; refine wpList_append_lies _ rfl _ _ 23 rfl w.heap.size 3 i0 (.int .i64 0) 1 8 Try.underlying23 hi hz0 hz1 hz2 rfl (by omega) _ _ _ rfl hO' ⟨wr.heap.size, 0, none⟩ 1 1 [.int .i64 (k : Int)] rfl rfl (cell_one_new _ _ _) (by simp [Value.oneCell']) (by omega) ?h63 ?hby hB1 (wr.heap.size + 1) (by simp) ?_))
        case h63 => unfold maxLen; omega
        case hby => omega
        intro g cap w1 hown hgrow hat hltg
        have HN : Hid (Own w1 w.heap.size (.slice (some ⟨g, 0, none⟩) ((places B k).length + 1) cap) (places B (k + 1)) ∧ Still w w1) := ⟨by
          simp only [places, HE.out, if_true]
          exact Own.more hown, HS.out.grown hgrow hB1 (fun x hx => (World.ownsRow.lt hO' x hx).1)⟩
        clear hown hgrow hat hltg hO' HS
        go_wp2_with fail
        go_roundw
        case rel => exact ⟨k + 1, by omega, by go_num, HN⟩
        case measure => simp [intOf]; omega
      | false =>
        rw [hb] at hc
        have HE : Hid (_ = _) := hb
        clear hb
        go_wp2_with fail
        go_roundw
        case rel =>
          refine ⟨k + 1, by omega, by go_num, ?_⟩
          have := HR.out
          show _ ∧ _
          simpa [places, HE.out] using this
        case measure => simp [intOf]; omega
    · have k1 : ¬ (k : Int) < (n : Int) := by omega
      have : k = n := by omega
      subst this
      have hpl := places_length B k
      obtain ⟨hO, hS⟩ := HR.out
      have HS : Hid (_) := hS
      clear HR hS
      obtain ⟨ps, hps⟩ : ∃ ps, places B k = ps := ⟨_, rfl⟩
      rw [hps] at hO hpl
      have HP : Hid (places B k = ps) := hps
      clear hps
      obtain ⟨av, cv, rfl⟩ := hO.isSlice
      by_cases h0 : ps = []
      · subst h0
        have HO : Hid (_) := hO
        clear hO
        go_wp2
        go_ret2
        exact ⟨by rw [HP.out, pickAns_nil]; rfl, HS.out⟩
      · have hl : 0 < ps.length := List.length_pos_iff.2 h0
        have hl1 : (1 : Int) ≤ (ps.length : Int) := by omega
        have hl2 : ((ps.length : Int) == 0) = false := by simp; omega
        obtain ⟨g, m, rfl, hm, hu, hcell⟩ := pick_cell hO hl p
        have hmod : (IntKind.u64.wrap p).tmod (ps.length : Int) = (m : Int) := by
          rw [← hu]
          have e : IntKind.u64.wrap p = p % 18446744073709551616 := by simp [IntKind.wrap, IntKind.signed, IntKind.bits]
          rw [e, Int.tmod_eq_emod_of_nonneg (by omega)]
          rfl
        have HO : Hid (_) := hO
        clear hO
        go_wp2
        go_ret2
        exact ⟨by rw [HP.out, pickAns_some h0]; rfl, HS.out⟩

end Go.Proofs.Ytehfmmmkhjjjfaa
