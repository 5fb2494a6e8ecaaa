/-
  ArenaActs: where it ends at once, and where there is nothing to play.
-/
import Derived.Test.YtkaijfpenokmbaaJoint
namespace Go.Proofs.Ytkaijfpenokmbaa
open Go.RowKit
set_option linter.unusedSimpArgs false
set_option linter.unusedVariables false

/-- Behind j acts. -/
structure Played (n m j : Nat) (A : Ar) : Prop where
  words : A.words.length = n
  cores : A.traces.length = m
  many : ∀ d, (A.traces.getD d []).length ≤ j

theorem Played.start (n m : Nat) : Played n m 0 (fresh n m) := ⟨by simp [fresh], by simp [fresh], fun d => by
  have : (fresh n m).traces.getD d [] = [] := by
    show (List.replicate m ([] : List (Int × Bool))).getD d [] = []
    rw [List.getD, List.getElem?_replicate]
    split <;> rfl
  rw [this]
  exact Nat.le_refl _⟩

theorem Played.next {n m j : Nat} {A B : Ar} (h : Played n m j A) (hn : Near A B) : Played n m (j + 1) B :=
  ⟨hn.words.trans h.words, hn.cores.trans h.cores, fun d => Nat.le_trans (hn.many d) (Nat.succ_le_succ (h.many d))⟩

theorem Played.small {n m j : Nat} {A : Ar} (h : Played n m j A) (hj : j ≤ 300) : Small A := fun d => Nat.lt_of_le_of_lt (h.many d) (by omega)

theorem box5 {w : World} {b : Nat} {x y z u v : Value} (h : w.heap[b]? = some (.cells #[x, y, z, u, v] 34 (0, 0))) : w.cell? ⟨b, 0, none⟩ = some x ∧ w.cell? ⟨b, 1, none⟩ = some y ∧ w.cell? ⟨b, 2, none⟩ = some z ∧ w.cell? ⟨b, 3, none⟩ = some u ∧ w.cell? ⟨b, 4, none⟩ = some v := by
  simp [World.cell?, h]

def ActAt (w : World) (B off i : Nat) (k c t o v : Int) : Prop := w.cell? ⟨B, off + i * 5, none⟩ = some (.int .i64 k) ∧ w.cell? ⟨B, off + i * 5 + 1, none⟩ = some (.int .i64 c) ∧ w.cell? ⟨B, off + i * 5 + 2, none⟩ = some (.int .i64 t) ∧ w.cell? ⟨B, off + i * 5 + 3, none⟩ = some (.int .i64 o) ∧ w.cell? ⟨B, off + i * 5 + 4, none⟩ = some (.int .i64 v)

theorem ActAt.kept {w w' : World} {B off i : Nat} {k c t o v : Int} (h : ActAt w B off i k c t o v) (hk : Kept [] w w') : ActAt w' B off i k c t o v :=
  ⟨hk.cell h.1 (by simp), hk.cell h.2.1 (by simp), hk.cell h.2.2.1 (by simp), hk.cell h.2.2.2.1 (by simp), hk.cell h.2.2.2.2 (by simp)⟩

set_option maxRecDepth 100000 in
set_option maxHeartbeats 8000000 in
theorem acts_none (n m : Int) (sv : Value) (w : World) (h : n < 1 ∨ 65536 < n ∨ m < 1 ∨ 8 < m) :
    Calls Try.prog 3 #[.int .i64 n, .int .i64 m, sv] w fun e w' => e = .returned (.bool true) ∧ Kept [] w w' := by
  go_enter Try.func3, Try.ntmps3
  go_wp2_with fail
  refine (new_no w n m h).mono ?_
  rintro e w' ⟨rfl, rfl⟩
  go_wp2_with fail
  refine (rnew_no _ n m h).mono ?_
  rintro e w' ⟨rfl, rfl⟩
  clear h
  go_wp2_with (first
    | (go_at_call 10; refine (num _ _).mono ?_; rintro e w' ⟨rfl, rfl⟩)
    | (go_at_call 11; refine (awake_any _).mono ?_; rintro e w1 ⟨rfl, hK⟩))
  go_ret
  exact ⟨rfl, hK⟩

set_option maxRecDepth 100000 in
set_option maxHeartbeats 16000000 in
theorem acts_nothing (a : Option Addr) (cap0 n m : Nat) (w : World) (h0 : 1 ≤ n) (h1 : n ≤ 65536) (m0 : 1 ≤ m) (m1 : m ≤ 8) :
    Calls Try.prog 3 #[.int .i64 (n : Int), .int .i64 (m : Int), .slice a 0 cap0] w fun e w' => e = .returned (.bool true) ∧ Kept [] w w' := by
  go_enter Try.func3, Try.ntmps3
  go_wp2_with fail
  refine (new_yes w n m h0 h1 m0 m1).mono ?_
  rintro e w1 ⟨p, rfl, hK1, hf1, hm1⟩
  have H1 : Hid (_ ∧ _ ∧ _) := ⟨hK1, hf1, hm1⟩
  clear hK1 hf1 hm1
  go_wp2_with fail
  refine (rnew_yes w1 n m h0 h1 m0 m1).mono ?_
  rintro e w2 ⟨q, rfl, hK2, hf2, hr2⟩
  have hT := Two.start H1.out.1 H1.out.2.1 H1.out.2.2 hK2 hf2 hr2
  have HT : Hid (Two w w2 p.b q.b (fresh n m) (fresh n m) none) := hT
  clear hK2 hf2 hr2 H1 hT
  generalize p.b = b at *
  generalize q.b = c at *
  clear p q
  have HI : Hid (∃ A, Two w w2 b c A A none ∧ Played n m 0 A) := ⟨_, HT.out, Played.start n m⟩
  have hw : ((fresh n m).words.length : Int) = (n : Int) := by simp [fresh]
  have hcs : ((fresh n m).traces.length : Int) = (m : Int) := by simp [fresh]
  have HW : Hid (_ ∧ _) := ⟨hw, hcs⟩
  clear hw hcs
  go_wp2_with (first
    | (go_at_call 10; refine (num _ _).mono ?_; rintro e w' ⟨rfl, rfl⟩)
    | (go_at_call 12; refine (t_words HT.out).mono ?_; rintro e w' ⟨rfl, rfl⟩; rw [HW.out.1])
    | (go_at_call 13; refine (t_cores HT.out).mono ?_; rintro e w' ⟨rfl, rfl⟩; rw [HW.out.2]))
  clear HT HW
  go_loopw [11] (fun i wr => i = .int .i64 0 ∧ Hid (∃ A, Two w wr b c A A none ∧ Played n m 0 A)) (fun _ _ => 0)
  case atStart => exact ⟨rfl, HI⟩
  case round =>
    obtain ⟨rfl, HR⟩ := hrel
    clear HI
    obtain ⟨A, hT, hS⟩ := HR.out
    have HS : Hid (_) := hS
    have HI2 : Hid (Two w wr b c A A none) := hT
    clear hT hS HR
    go_wp2_with fail
    go_loopw [27] (fun i wr => ∃ k : Nat, k ≤ m ∧ i = .int .i64 (k : Int) ∧ Hid (Two w wr b c A A none)) (fun i _ => (m - intOf i).toNat)
    case atStart => exact ⟨0, by omega, rfl, HI2⟩
    case round =>
      obtain ⟨k, hk, rfl, HV⟩ := hrel
      clear HI2
      by_cases hkm : k < m
      · have k1 : (k : Int) < (m : Int) := by omega
        go_wp2_with fail
        refine (j_traces HV.out (HS.out.small (by omega)) (k : Int)).mono ?_
        rintro e w5 ⟨rfl, hT5⟩
        go_wp2_with fail
        go_roundw
        case rel => exact ⟨k + 1, by omega, by go_num, hT5⟩
        case measure => simp [intOf]; omega
      · have k1 : ¬ (k : Int) < (m : Int) := by omega
        go_wp2_with (first
          | (go_at_call 11; refine (awake_any _).mono ?_; rintro e w7 ⟨rfl, hK7⟩))
        go_ret
        exact ⟨rfl, HV.out.1.trans hK7 (by simp)⟩

end Go.Proofs.Ytkaijfpenokmbaa
