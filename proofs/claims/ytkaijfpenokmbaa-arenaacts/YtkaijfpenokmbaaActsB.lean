/-
  ArenaActs: the walk where there is something to play.
-/
import Derived.Test.YtkaijfpenokmbaaActsA
namespace Go.Proofs.Ytkaijfpenokmbaa
open Go.RowKit
set_option linter.unusedSimpArgs false
set_option linter.unusedVariables false

set_option maxRecDepth 100000 in
set_option maxHeartbeats 64000000 in
theorem acts_some (B off len0 cap0 n m : Nat) (K C T O V : Nat → Int) (w : World) (h0 : 1 ≤ n) (h1 : n ≤ 65536) (m0 : 1 ≤ m) (m1 : m ≤ 8) (hl : len0 ≤ 9223372036854775807) (hc : ∀ i, i < len0 → ActAt w B off i (K i) (C i) (T i) (O i) (V i)) :
    Calls Try.prog 3 #[.int .i64 (n : Int), .int .i64 (m : Int), .slice (some ⟨B, off, none⟩) len0 cap0] w fun e w' => e = .returned (.bool true) ∧ Kept [] w w' := by
  have HC : Hid (∀ i, i < len0 → ActAt w B off i (K i) (C i) (T i) (O i) (V i)) := hc
  clear hc
  go_enter Try.func3, Try.ntmps3
  go_wp2_with fail
  refine (new_yes w n m h0 h1 m0 m1).mono ?_
  rintro e w1 ⟨p, rfl, hK1, hf1, hm1⟩
  have H1 : Hid (_ ∧ _ ∧ _) := ⟨hK1, hf1, hm1⟩
  clear hK1 hf1 hm1
  go_wp2_with fail
  refine (rnew_yes w1 n m h0 h1 m0 m1).mono ?_
  rintro e w2 ⟨q, rfl, hK2, hf2, hr2⟩
  have hT := Two.start H1.out.1 H1.out.2.1 H1.out.2.2 hK2 hf2 hr2
  have HT : Hid (Two w w2 p.b q.b (fresh n m) (fresh n m) none) := hT
  clear hK2 hf2 hr2 H1 hT
  generalize p.b = b at *
  generalize q.b = c at *
  clear p q
  have HI : Hid (∃ A, Two w w2 b c A A none ∧ Played n m 0 A) := ⟨_, HT.out, Played.start n m⟩
  have hw : ((fresh n m).words.length : Int) = (n : Int) := by simp [fresh]
  have hcs : ((fresh n m).traces.length : Int) = (m : Int) := by simp [fresh]
  have HW : Hid (_ ∧ _) := ⟨hw, hcs⟩
  clear hw hcs
  go_wp2_with (first
    | (go_at_call 10; refine (num _ _).mono ?_; rintro e w' ⟨rfl, rfl⟩)
    | (go_at_call 12; refine (t_words HT.out).mono ?_; rintro e w' ⟨rfl, rfl⟩; rw [HW.out.1])
    | (go_at_call 13; refine (t_cores HT.out).mono ?_; rintro e w' ⟨rfl, rfl⟩; rw [HW.out.2]))
  clear HT HW
  go_loopw [11] (fun i wr => ∃ j : Nat, j ≤ len0 ∧ j ≤ 300 ∧ i = .int .i64 (j : Int) ∧ Hid (∃ A, Two w wr b c A A none ∧ Played n m j A)) (fun i _ => (300 - intOf i).toNat)
  case atStart => exact ⟨0, by omega, by omega, rfl, HI⟩
  case round =>
    obtain ⟨j, hj, hj3, rfl, HR⟩ := hrel
    clear HI
    by_cases hlt : j < len0 ∧ j < 300
    · obtain ⟨hlt, hlt3⟩ := hlt
      obtain ⟨A, hT, hS⟩ := HR.out
      clear HR
      obtain ⟨x0, x1, x2, x3, x4⟩ := (HC.out j hlt).kept hT.1
      have i0 : (0 : Int) ≤ (j : Int) := by omega
      have i1 : (j : Int) < (len0 : Int) := by omega
      have i2 : (j : Int) < 300 := by omega
      by_cases h0 : K j = 0
      · rw [h0] at x0
        clear h0
        have hB := hT.box (.cells #[.int .i64 0, .int .i64 (C j), .int .i64 (T j), .int .i64 (O j), .int .i64 (V j)] 34)
        have HB : Hid (_ ∧ _) := ⟨hB, hS⟩
        clear hB hT hS
        go_wp2_with fail
        refine (j_load HB.out.1 (HB.out.2.small hj3) (C j) (T j)).mono ?_
        rintro e w4 ⟨B, x, cd, rfl, hN, hT4, hR⟩
        have hb := hT4.boxed
        obtain ⟨-, y1, y2, y3, y4⟩ := box5 hb
        clear hb
        have HN : Hid (_ ∧ _) := ⟨hN, hR⟩
        clear hN hR hT4
        go_wp2_with (first
          | (go_at_call 10; refine (num _ _).mono ?_; rintro e w' ⟨rfl, rfl⟩)
          | (go_at_call 15; refine HN.out.2.mono ?_; rintro e w5 ⟨bq, rfl, hT5⟩))
        go_roundw
        case rel => exact ⟨j + 1, by omega, by omega, by go_num, ⟨_, hT5.unbox, HB.out.2.next HN.out.1⟩⟩
        case measure => simp [intOf]; omega
      have t0 : (K j == 0) = false := by simp [h0]
      clear h0
      by_cases h1 : K j = 1
      · rw [h1] at x0
        clear h1 t0
        have hB := hT.box (.cells #[.int .i64 1, .int .i64 (C j), .int .i64 (T j), .int .i64 (O j), .int .i64 (V j)] 34)
        have HB : Hid (_ ∧ _) := ⟨hB, hS⟩
        clear hB hT hS
        go_wp2_with fail
        refine (j_load HB.out.1 (HB.out.2.small hj3) (C j) (T j)).mono ?_
        rintro e w4 ⟨B, x, cd, rfl, hN, hT4, hR⟩
        have hb := hT4.boxed
        obtain ⟨-, y1, y2, y3, y4⟩ := box5 hb
        clear hb
        have HN : Hid (_ ∧ _) := ⟨hN, hR⟩
        clear hN hR hT4
        go_wp2_with (first
          | (go_at_call 10; refine (num _ _).mono ?_; rintro e w' ⟨rfl, rfl⟩)
          | (go_at_call 15; refine HN.out.2.mono ?_; rintro e w5 ⟨bq, rfl, hT5⟩))
        go_roundw
        case rel => exact ⟨j + 1, by omega, by omega, by go_num, ⟨_, hT5.unbox, HB.out.2.next HN.out.1⟩⟩
        case measure => simp [intOf]; omega
      have t1 : (K j == 1) = false := by simp [h1]
      clear h1
      by_cases h2 : K j = 2
      · rw [h2] at x0
        clear h2 t0 t1
        have hB := hT.box (.cells #[.int .i64 2, .int .i64 (C j), .int .i64 (T j), .int .i64 (O j), .int .i64 (V j)] 34)
        have HB : Hid (_ ∧ _) := ⟨hB, hS⟩
        clear hB hT hS
        go_wp2_with fail
        refine (j_store HB.out.1 (HB.out.2.small hj3) (C j) (T j) (V j)).mono ?_
        rintro e w4 ⟨B, cd, rfl, hN, hT4, hR⟩
        have hb := hT4.boxed
        obtain ⟨-, y1, y2, y3, y4⟩ := box5 hb
        clear hb
        have HN : Hid (_ ∧ _) := ⟨hN, hR⟩
        clear hN hR hT4
        go_wp2_with (first
          | (go_at_call 10; refine (num _ _).mono ?_; rintro e w' ⟨rfl, rfl⟩)
          | (go_at_call 15; refine HN.out.2.mono ?_; rintro e w5 ⟨x, bq, rfl, hT5⟩))
        go_roundw
        case rel => exact ⟨j + 1, by omega, by omega, by go_num, ⟨_, hT5.unbox, HB.out.2.next HN.out.1⟩⟩
        case measure => simp [intOf]; omega
      have t2 : (K j == 2) = false := by simp [h2]
      clear h2
      by_cases h3 : K j = 3
      · rw [h3] at x0
        clear h3 t0 t1 t2
        have hB := hT.box (.cells #[.int .i64 3, .int .i64 (C j), .int .i64 (T j), .int .i64 (O j), .int .i64 (V j)] 34)
        have HB : Hid (_ ∧ _) := ⟨hB, hS⟩
        clear hB hT hS
        go_wp2_with fail
        refine (j_cas HB.out.1 (HB.out.2.small hj3) (C j) (T j) (O j) (V j)).mono ?_
        rintro e w4 ⟨B, bq, cd, rfl, hN, hT4, hR⟩
        have hb := hT4.boxed
        obtain ⟨-, y1, y2, y3, y4⟩ := box5 hb
        clear hb
        have HN : Hid (_ ∧ _) := ⟨hN, hR⟩
        clear hN hR hT4
        go_wp2_with (first
          | (go_at_call 10; refine (num _ _).mono ?_; rintro e w' ⟨rfl, rfl⟩)
          | (go_at_call 15; refine HN.out.2.mono ?_; rintro e w5 ⟨x, rfl, hT5⟩))
        go_roundw
        case rel => exact ⟨j + 1, by omega, by omega, by go_num, ⟨_, hT5.unbox, HB.out.2.next HN.out.1⟩⟩
        case measure => simp [intOf]; omega
      have t3 : (K j == 3) = false := by simp [h3]
      clear h3
      by_cases h4 : K j = 4
      · rw [h4] at x0
        clear h4 t0 t1 t2 t3
        have hB := hT.box (.cells #[.int .i64 4, .int .i64 (C j), .int .i64 (T j), .int .i64 (O j), .int .i64 (V j)] 34)
        have HB : Hid (_ ∧ _) := ⟨hB, hS⟩
        clear hB hT hS
        go_wp2_with fail
        refine (j_cas HB.out.1 (HB.out.2.small hj3) (C j) (T j) (O j) (V j)).mono ?_
        rintro e w4 ⟨B, bq, cd, rfl, hN, hT4, hR⟩
        have hb := hT4.boxed
        obtain ⟨-, y1, y2, y3, y4⟩ := box5 hb
        clear hb
        have HN : Hid (_ ∧ _) := ⟨hN, hR⟩
        clear hN hR hT4
        go_wp2_with (first
          | (go_at_call 10; refine (num _ _).mono ?_; rintro e w' ⟨rfl, rfl⟩)
          | (go_at_call 15; refine HN.out.2.mono ?_; rintro e w5 ⟨x, rfl, hT5⟩))
        go_roundw
        case rel => exact ⟨j + 1, by omega, by omega, by go_num, ⟨_, hT5.unbox, HB.out.2.next HN.out.1⟩⟩
        case measure => simp [intOf]; omega
      have t4 : (K j == 4) = false := by simp [h4]
      clear h4
      by_cases h5 : K j = 5
      · rw [h5] at x0
        clear h5 t0 t1 t2 t3 t4
        have hB := hT.box (.cells #[.int .i64 5, .int .i64 (C j), .int .i64 (T j), .int .i64 (O j), .int .i64 (V j)] 34)
        have HB : Hid (_ ∧ _) := ⟨hB, hS⟩
        clear hB hT hS
        go_wp2_with fail
        refine (j_add HB.out.1 (HB.out.2.small hj3) (C j) (T j) (V j)).mono ?_
        rintro e w4 ⟨B, x, cd, rfl, hN, hT4, hR⟩
        have hb := hT4.boxed
        obtain ⟨-, y1, y2, y3, y4⟩ := box5 hb
        clear hb
        have HN : Hid (_ ∧ _) := ⟨hN, hR⟩
        clear hN hR hT4
        go_wp2_with (first
          | (go_at_call 10; refine (num _ _).mono ?_; rintro e w' ⟨rfl, rfl⟩)
          | (go_at_call 15; refine HN.out.2.mono ?_; rintro e w5 ⟨bq, rfl, hT5⟩))
        go_roundw
        case rel => exact ⟨j + 1, by omega, by omega, by go_num, ⟨_, hT5.unbox, HB.out.2.next HN.out.1⟩⟩
        case measure => simp [intOf]; omega
      have t5 : (K j == 5) = false := by simp [h5]
      clear h5
      by_cases h6 : K j = 6
      · rw [h6] at x0
        clear h6 t0 t1 t2 t3 t4 t5
        have hB := hT.box (.cells #[.int .i64 6, .int .i64 (C j), .int .i64 (T j), .int .i64 (O j), .int .i64 (V j)] 34)
        have HB : Hid (_ ∧ _) := ⟨hB, hS⟩
        clear hB hT hS
        go_wp2_with fail
        refine (j_clear HB.out.1 (C j)).mono ?_
        rintro e w4 ⟨B, cd, rfl, hN, hT4, hR⟩
        have hb := hT4.boxed
        obtain ⟨-, y1, y2, y3, y4⟩ := box5 hb
        clear hb
        have HN : Hid (_ ∧ _) := ⟨hN, hR⟩
        clear hN hR hT4
        go_wp2_with (first
          | (go_at_call 10; refine (num _ _).mono ?_; rintro e w' ⟨rfl, rfl⟩)
          | (go_at_call 20; refine HN.out.2.mono ?_; rintro e w5 ⟨rfl, hT5⟩))
        go_roundw
        case rel => exact ⟨j + 1, by omega, by omega, by go_num, ⟨_, hT5.unbox, HB.out.2.next HN.out.1⟩⟩
        case measure => simp [intOf]; omega
      have t6 : (K j == 6) = false := by simp [h6]
      clear h6
      have hB := hT.box (.cells #[.int .i64 (K j), .int .i64 (C j), .int .i64 (T j), .int .i64 (O j), .int .i64 (V j)] 34)
      have HB : Hid (_ ∧ _) := ⟨hB, hS⟩
      clear hB hT hS
      go_wp2_with fail
      refine (j_traces HB.out.1 (HB.out.2.small hj3) (C j)).mono ?_
      rintro e w5 ⟨rfl, hT5⟩
      go_wp2_with fail
      go_roundw
      case rel => exact ⟨j + 1, by omega, by omega, by go_num, ⟨_, hT5.unbox, HB.out.2.next (Near.refl _)⟩⟩
      case measure => simp [intOf]; omega
    · by_cases hx : j < len0
      · have i1 : (j : Int) < (len0 : Int) := by omega
        have i2 : ¬ (j : Int) < 300 := by omega
        obtain ⟨A, hT, hS⟩ := HR.out
        have HS : Hid (_) := hS
        have HI2 : Hid (Two w wr b c A A none) := hT
        clear hT hS HR
        go_wp2_with fail
        go_loopw [27] (fun i wr => ∃ k : Nat, k ≤ m ∧ i = .int .i64 (k : Int) ∧ Hid (Two w wr b c A A none)) (fun i _ => (m - intOf i).toNat)
        case atStart => exact ⟨0, by omega, rfl, HI2⟩
        case round =>
          obtain ⟨k, hk, rfl, HV⟩ := hrel
          clear HI2
          by_cases hkm : k < m
          · have k1 : (k : Int) < (m : Int) := by omega
            go_wp2_with fail
            refine (j_traces HV.out (HS.out.small hj3) (k : Int)).mono ?_
            rintro e w5 ⟨rfl, hT5⟩
            go_wp2_with fail
            go_roundw
            case rel => exact ⟨k + 1, by omega, by go_num, hT5⟩
            case measure => simp [intOf]; omega
          · have k1 : ¬ (k : Int) < (m : Int) := by omega
            go_wp2_with (first
              | (go_at_call 11; refine (awake_any _).mono ?_; rintro e w7 ⟨rfl, hK7⟩))
            go_ret
            exact ⟨rfl, HV.out.1.trans hK7 (by simp)⟩
      · have i1 : ¬ (j : Int) < (len0 : Int) := by omega
        obtain ⟨A, hT, hS⟩ := HR.out
        have HS : Hid (_) := hS
        have HI2 : Hid (Two w wr b c A A none) := hT
        clear hT hS HR
        go_wp2_with fail
        go_loopw [27] (fun i wr => ∃ k : Nat, k ≤ m ∧ i = .int .i64 (k : Int) ∧ Hid (Two w wr b c A A none)) (fun i _ => (m - intOf i).toNat)
        case atStart => exact ⟨0, by omega, rfl, HI2⟩
        case round =>
          obtain ⟨k, hk, rfl, HV⟩ := hrel
          clear HI2
          by_cases hkm : k < m
          · have k1 : (k : Int) < (m : Int) := by omega
            go_wp2_with fail
            refine (j_traces HV.out (HS.out.small hj3) (k : Int)).mono ?_
            rintro e w5 ⟨rfl, hT5⟩
            go_wp2_with fail
            go_roundw
            case rel => exact ⟨k + 1, by omega, by go_num, hT5⟩
            case measure => simp [intOf]; omega
          · have k1 : ¬ (k : Int) < (m : Int) := by omega
            go_wp2_with (first
              | (go_at_call 11; refine (awake_any _).mono ?_; rintro e w7 ⟨rfl, hK7⟩))
            go_ret
            exact ⟨rfl, HV.out.1.trans hK7 (by simp)⟩

end Go.Proofs.Ytkaijfpenokmbaa
