/-
  Package journal's readers: room, seal, areaAt, load, head.
-/
import Derived.Test.YtpaefllhngbimaaJh
namespace Go.Proofs.Ytpaefllhngbimaa
open Go.RowKit
set_option linter.unusedVariables false
set_option maxRecDepth 10000

/-- A journal as it lies. -/
abbrev jn (b : Nat) (f n : Int) : Obj := .cells #[.pointer (some ⟨b, 0, none⟩), .int .i64 f, .int .i64 n] 91 (0, 0)

theorem jn_cells {w : World} {j b : Nat} {f n : Int} (h : w.heap[j]? = some (jn b f n)) :
    w.cell? ⟨j, 0, none⟩ = some (.pointer (some ⟨b, 0, none⟩)) ∧ w.cell? ⟨j, 1, none⟩ = some (.int .i64 f) ∧ w.cell? ⟨j, 2, none⟩ = some (.int .i64 n) := by
  refine ⟨?_, ?_, ?_⟩ <;> simp [World.cell?, h]

theorem j_room {w : World} {j b : Nat} {f : Int} {n : Nat} (h : w.heap[j]? = some (jn b f n)) (h0 : 64 ≤ n) (h1 : n ≤ 65536) :
    Calls Try.prog 40 #[.pointer (some ⟨j, 0, none⟩)] w fun e w' => e = .returned (.int .i64 (roomOf n : Nat)) ∧ w = w' := by
  obtain ⟨c0, c1, c2⟩ := jn_cells h
  have t1 : (2 * (n : Int) - 64 < 65536) = (2 * n - 64 < 65536) := by apply propext; omega
  by_cases hl : 2 * (n : Int) - 64 ≤ 65536
  · go_enter Try.func40, Try.ntmps40
    go_wp2
    go_ret
    refine ⟨congrArg (fun x => Ending.returned (.int .i64 x)) (?_ : _ = ((roomOf n : Nat) : Int)), rfl⟩
    unfold roomOf
    omega
  · go_enter Try.func40, Try.ntmps40
    go_wp2
    go_ret
    refine ⟨congrArg (fun x => Ending.returned (.int .i64 x)) (?_ : _ = ((roomOf n : Nat) : Int)), rfl⟩
    unfold roomOf
    omega

theorem j_seal {w : World} {j b : Nat} {f : Int} {n : Nat} (h : w.heap[j]? = some (jn b f n)) (h1 : n ≤ 65536) (a : Nat) (ha : a < 2) :
    Calls Try.prog 53 #[.pointer (some ⟨j, 0, none⟩), .int .i64 (a : Int)] w fun e w' => e = .returned (.int .u64 (sealW n a)) ∧ w = w' := by
  obtain ⟨c0, c1, c2⟩ := jn_cells h
  go_enter Try.func53, Try.ntmps53
  go_wp2
  go_ret
  refine ⟨congrArg (fun x => Ending.returned (.int .u64 x)) (?_ : _ = sealW n a), rfl⟩
  unfold sealW
  omega

theorem j_areaAt {w : World} {j b : Nat} {f n : Nat} (h : w.heap[j]? = some (jn b f n)) (h0 : 64 ≤ n) (h1 : n ≤ 65536) (h2 : f ≤ 65536) (a : Nat) (ha : a < 2) :
    Calls Try.prog 52 #[.pointer (some ⟨j, 0, none⟩), .int .i64 (a : Int)] w fun e w' => e = .returned (.int .i64 (areaOf f n a : Nat)) ∧ w = w' := by
  obtain ⟨c0, c1, c2⟩ := jn_cells h
  go_enter Try.func52, Try.ntmps52
  rcases (show a = 0 ∨ a = 1 from by omega) with rfl | rfl
  · go_wp2
    go_ret
    refine ⟨congrArg (fun x => Ending.returned (.int .i64 x)) (?_ : _ = ((areaOf f n _ : Nat) : Int)), rfl⟩
    unfold areaOf
    omega
  · go_wp2
    go_ret
    refine ⟨congrArg (fun x => Ending.returned (.int .i64 x)) (?_ : _ = ((areaOf f n _ : Nat) : Int)), rfl⟩
    unfold areaOf
    omega

theorem j_load {S : List (Nat × Obj)} {w0 w : World} {b j : Nat} {M : Pm} (h : Hj S w0 w b M) {f n : Int} (hj : w.heap[j]? = some (jn b f n)) (a : Nat) (h1 : a < M.seen.length) :
    Calls Try.prog 55 #[.pointer (some ⟨j, 0, none⟩), .int .i64 (a : Int)] w fun e w' => e = .returned (.int .u64 (wordAt M.seen a)) ∧ w = w' := by
  obtain ⟨c0, c1, c2⟩ := jn_cells hj
  go_enter Try.func55, Try.ntmps55
  go_wp2_with (first
    | (go_at_call 38; refine (h_load h (a : Int) (by omega) (by omega)).mono ?_; rintro e w' ⟨rfl, rfl⟩))
  go_ret
  exact ⟨rfl, rfl⟩

/-- What head answers. -/
def headV : Option Nat → Value
  | some a => .iface 93 (.agg #[.int .i64 (a : Int)])
  | none => .iface 99 (.agg #[])

set_option maxHeartbeats 1000000 in
theorem j_head {S : List (Nat × Obj)} {w0 w : World} {b j : Nat} {M : Pm} (h : Hj S w0 w b M) {f n : Nat} (hj : w.heap[j]? = some (jn b f n)) (hx : Fits M.seen f n) :
    Calls Try.prog 50 #[.pointer (some ⟨j, 0, none⟩)] w fun e w' => e = .returned (headV (headOf M.seen f n)) ∧ w = w' := by
  obtain ⟨c0, c1, c2⟩ := jn_cells hj
  have hhi := hx.hi
  have hlo := hx.lo
  have htop := hx.top
  go_enter Try.func50, Try.ntmps50
  go_wp2_with (first
    | (go_at_call 55; refine (j_load h hj f (by omega)).mono ?_; rintro e w' ⟨rfl, rfl⟩))
  go_loopw [11] (fun i wr => ∃ k : Nat, i = .int .i64 (k : Int) ∧ k ≤ 2 ∧ (∀ q, q < k → wordAt M.seen f ≠ sealW n q) ∧ wr = w) (fun i _ => (2 - intOf i).toNat)
  case atStart => exact ⟨0, rfl, by omega, fun q hq => by omega, rfl⟩
  case round =>
    obtain ⟨k, rfl, hk, hq, rfl⟩ := hrel
    by_cases hlt : k < 2
    · have i1 : (k : Int) < 2 := by omega
      by_cases he : wordAt M.seen f = sealW n k
      · go_wp2_with (first
          | (go_at_call 53; refine (j_seal hj (by omega) k hlt).mono ?_; rintro e w' ⟨rfl, rfl⟩; rw [he]))
        go_ret
        refine ⟨?_, rfl⟩
        have : headOf M.seen f n = some k := by
          unfold headOf
          rcases (show k = 0 ∨ k = 1 from by omega) with rfl | rfl
          · rw [if_pos he]
          · rw [if_neg (hq 0 (by omega)), if_pos he]
        rw [this]; rfl
      · go_wp2_with (first
          | (go_at_call 53; refine (j_seal hj (by omega) k hlt).mono ?_; rintro e w' ⟨rfl, rfl⟩))
        go_roundw
        case rel => exact ⟨k + 1, by go_num, by omega, fun q hq2 => (by rcases Nat.lt_succ_iff_lt_or_eq.1 hq2 with h1 | rfl; exact hq q h1; exact he), by first | rfl | trivial⟩
        case measure => simp [intOf]; omega
    · have i1 : ¬ (k : Int) < 2 := by omega
      have : headOf M.seen f n = none := by
        unfold headOf
        rw [if_neg (hq 0 (by omega)), if_neg (hq 1 (by omega))]
      have HT : Hid (_ = _) := this
      clear this
      go_wp2_with fail
      go_ret
      exact ⟨by rw [HT.out]; rfl, rfl⟩

end Go.Proofs.Ytpaefllhngbimaa
