/-
  For every three stamps the law StampOrders returns true: Less is an order of them, and Next is above both, for every input.
-/
import Derived.Test.YthjhkcdicaiohaaRows
import Derived.Test.YthjhkcdicaiohaaSa
import Derived.Test.YthjhkcdicaiohaaPo
import Derived.WalkKit
import Derived.ProofKit
import Derived.OpenShut
import Derived.ShutString
import Derived.ChangeOld
import Derived.Below
import Derived.Deep.Slices
import Derived.SizedLaws
namespace Go.Proofs.Ythjhkcdicaiohaa.stampOrders
open Go.ChangeShapes Go.WideShapes Go.ChangeAt Go.RowKit
open Go.ChangeMaps (open_string shut_string)
set_option linter.unusedVariables false

theorem own : ownKnob Try.prog.godebug = none := by kernel_rfl
theorem laidOut : laidOutB Try.prog = true := by kernel_rfl

set_option linter.unusedSimpArgs false

theorem s3_kept {w w1 w2 : World} {X : Nat} {a k b l c m : Int} (h : Kept [] w w1 ∧ w1.cell? ⟨X, 0, none⟩ = some (.int .i64 a) ∧ w1.cell? ⟨X, 1, none⟩ = some (.int .i64 k) ∧ w1.cell? ⟨X + 1, 0, none⟩ = some (.int .i64 b) ∧ w1.cell? ⟨X + 1, 1, none⟩ = some (.int .i64 l) ∧ w1.cell? ⟨X + 1 + 1, 0, none⟩ = some (.int .i64 c) ∧ w1.cell? ⟨X + 1 + 1, 1, none⟩ = some (.int .i64 m)) (hk : Kept [] w1 w2) :
    Kept [] w w2 ∧ w2.cell? ⟨X, 0, none⟩ = some (.int .i64 a) ∧ w2.cell? ⟨X, 1, none⟩ = some (.int .i64 k) ∧ w2.cell? ⟨X + 1, 0, none⟩ = some (.int .i64 b) ∧ w2.cell? ⟨X + 1, 1, none⟩ = some (.int .i64 l) ∧ w2.cell? ⟨X + 1 + 1, 0, none⟩ = some (.int .i64 c) ∧ w2.cell? ⟨X + 1 + 1, 1, none⟩ = some (.int .i64 m) :=
  ⟨h.1.trans hk (by simp), hk.cell h.2.1 (by simp), hk.cell h.2.2.1 (by simp), hk.cell h.2.2.2.1 (by simp), hk.cell h.2.2.2.2.1 (by simp), hk.cell h.2.2.2.2.2.1 (by simp), hk.cell h.2.2.2.2.2.2 (by simp)⟩

theorem s3_drew {w w1 : World} {X : Nat} {a k b l c m : Int} (h : Kept [] w w1 ∧ w1.cell? ⟨X, 0, none⟩ = some (.int .i64 a) ∧ w1.cell? ⟨X, 1, none⟩ = some (.int .i64 k) ∧ w1.cell? ⟨X + 1, 0, none⟩ = some (.int .i64 b) ∧ w1.cell? ⟨X + 1, 1, none⟩ = some (.int .i64 l) ∧ w1.cell? ⟨X + 1 + 1, 0, none⟩ = some (.int .i64 c) ∧ w1.cell? ⟨X + 1 + 1, 1, none⟩ = some (.int .i64 m)) :
    Kept [] w w1.drew ∧ w1.drew.cell? ⟨X, 0, none⟩ = some (.int .i64 a) ∧ w1.drew.cell? ⟨X, 1, none⟩ = some (.int .i64 k) ∧ w1.drew.cell? ⟨X + 1, 0, none⟩ = some (.int .i64 b) ∧ w1.drew.cell? ⟨X + 1, 1, none⟩ = some (.int .i64 l) ∧ w1.drew.cell? ⟨X + 1 + 1, 0, none⟩ = some (.int .i64 c) ∧ w1.drew.cell? ⟨X + 1 + 1, 1, none⟩ = some (.int .i64 m) :=
  ⟨h.1.drew, h.2.1, h.2.2.1, h.2.2.2.1, h.2.2.2.2.1, h.2.2.2.2.2.1, h.2.2.2.2.2.2⟩

theorem s4_kept {w w1 w2 : World} {X Y : Nat} {a k b l c m n : Int} (h : Kept [] w w1 ∧ w1.cell? ⟨X, 0, none⟩ = some (.int .i64 a) ∧ w1.cell? ⟨X, 1, none⟩ = some (.int .i64 k) ∧ w1.cell? ⟨X + 1, 0, none⟩ = some (.int .i64 b) ∧ w1.cell? ⟨X + 1, 1, none⟩ = some (.int .i64 l) ∧ w1.cell? ⟨X + 1 + 1, 0, none⟩ = some (.int .i64 c) ∧ w1.cell? ⟨X + 1 + 1, 1, none⟩ = some (.int .i64 m) ∧ w1.cell? ⟨Y, 0, none⟩ = some (.int .i64 n) ∧ w1.cell? ⟨Y, 1, none⟩ = some (.int .i64 k)) (hk : Kept [] w1 w2) :
    Kept [] w w2 ∧ w2.cell? ⟨X, 0, none⟩ = some (.int .i64 a) ∧ w2.cell? ⟨X, 1, none⟩ = some (.int .i64 k) ∧ w2.cell? ⟨X + 1, 0, none⟩ = some (.int .i64 b) ∧ w2.cell? ⟨X + 1, 1, none⟩ = some (.int .i64 l) ∧ w2.cell? ⟨X + 1 + 1, 0, none⟩ = some (.int .i64 c) ∧ w2.cell? ⟨X + 1 + 1, 1, none⟩ = some (.int .i64 m) ∧ w2.cell? ⟨Y, 0, none⟩ = some (.int .i64 n) ∧ w2.cell? ⟨Y, 1, none⟩ = some (.int .i64 k) :=
  ⟨h.1.trans hk (by simp), hk.cell h.2.1 (by simp), hk.cell h.2.2.1 (by simp), hk.cell h.2.2.2.1 (by simp), hk.cell h.2.2.2.2.1 (by simp), hk.cell h.2.2.2.2.2.1 (by simp), hk.cell h.2.2.2.2.2.2.1 (by simp), hk.cell h.2.2.2.2.2.2.2.1 (by simp), hk.cell h.2.2.2.2.2.2.2.2 (by simp)⟩

theorem s4_drew {w w1 : World} {X Y : Nat} {a k b l c m n : Int} (h : Kept [] w w1 ∧ w1.cell? ⟨X, 0, none⟩ = some (.int .i64 a) ∧ w1.cell? ⟨X, 1, none⟩ = some (.int .i64 k) ∧ w1.cell? ⟨X + 1, 0, none⟩ = some (.int .i64 b) ∧ w1.cell? ⟨X + 1, 1, none⟩ = some (.int .i64 l) ∧ w1.cell? ⟨X + 1 + 1, 0, none⟩ = some (.int .i64 c) ∧ w1.cell? ⟨X + 1 + 1, 1, none⟩ = some (.int .i64 m) ∧ w1.cell? ⟨Y, 0, none⟩ = some (.int .i64 n) ∧ w1.cell? ⟨Y, 1, none⟩ = some (.int .i64 k)) :
    Kept [] w w1.drew ∧ w1.drew.cell? ⟨X, 0, none⟩ = some (.int .i64 a) ∧ w1.drew.cell? ⟨X, 1, none⟩ = some (.int .i64 k) ∧ w1.drew.cell? ⟨X + 1, 0, none⟩ = some (.int .i64 b) ∧ w1.drew.cell? ⟨X + 1, 1, none⟩ = some (.int .i64 l) ∧ w1.drew.cell? ⟨X + 1 + 1, 0, none⟩ = some (.int .i64 c) ∧ w1.drew.cell? ⟨X + 1 + 1, 1, none⟩ = some (.int .i64 m) ∧ w1.drew.cell? ⟨Y, 0, none⟩ = some (.int .i64 n) ∧ w1.drew.cell? ⟨Y, 1, none⟩ = some (.int .i64 k) :=
  ⟨h.1.drew, h.2.1, h.2.2.1, h.2.2.2.1, h.2.2.2.2.1, h.2.2.2.2.2.1, h.2.2.2.2.2.2.1, h.2.2.2.2.2.2.2.1, h.2.2.2.2.2.2.2.2⟩

theorem boxes3 (w : World) (a k b l c m : Int) : ∃ U X, Hid (((w.alloc (.cells #[.int .i64 a, .int .i64 k] 23 (0, 0))).alloc (.cells #[.int .i64 b, .int .i64 l] 23 (0, 0))).alloc (.cells #[.int .i64 c, .int .i64 m] 23 (0, 0)) = U ∧ w.heap.size = X) ∧
    Hid (Kept [] w U ∧ U.cell? ⟨X, 0, none⟩ = some (.int .i64 a) ∧ U.cell? ⟨X, 1, none⟩ = some (.int .i64 k) ∧ U.cell? ⟨X + 1, 0, none⟩ = some (.int .i64 b) ∧ U.cell? ⟨X + 1, 1, none⟩ = some (.int .i64 l) ∧ U.cell? ⟨X + 1 + 1, 0, none⟩ = some (.int .i64 c) ∧ U.cell? ⟨X + 1 + 1, 1, none⟩ = some (.int .i64 m)) := by
  have k1 := (Kept.refl [] w).alloc (.cells #[.int .i64 a, .int .i64 k] 23 (0, 0))
  have k2 := (Kept.refl [] (w.alloc (.cells #[.int .i64 a, .int .i64 k] 23 (0, 0)))).alloc (.cells #[.int .i64 b, .int .i64 l] 23 (0, 0))
  have k3 := (Kept.refl [] ((w.alloc (.cells #[.int .i64 a, .int .i64 k] 23 (0, 0))).alloc (.cells #[.int .i64 b, .int .i64 l] 23 (0, 0)))).alloc (.cells #[.int .i64 c, .int .i64 m] 23 (0, 0))
  have k23 := k2.trans k3 (by simp)
  have e1 : (w.alloc (.cells #[.int .i64 a, .int .i64 k] 23 (0, 0))).heap.size = w.heap.size + 1 := by simp
  have e2 : ((w.alloc (.cells #[.int .i64 a, .int .i64 k] 23 (0, 0))).alloc (.cells #[.int .i64 b, .int .i64 l] 23 (0, 0))).heap.size = w.heap.size + 1 + 1 := by simp
  refine ⟨_, _, ⟨rfl, rfl⟩, k1.trans k23 (by simp), k23.cell (cell_new _ _ _ _) (by simp), k23.cell (cell_new _ _ _ _) (by simp), ?_, ?_, ?_, ?_⟩
  · rw [← e1]; exact k3.cell (cell_new _ _ _ _) (by simp)
  · rw [← e1]; exact k3.cell (cell_new _ _ _ _) (by simp)
  · rw [← e2]; exact cell_new _ _ _ _
  · rw [← e2]; exact cell_new _ _ _ _

theorem less_trans {a k b l c m : Int} (h : lessS a k b l = true) (h' : lessS b l c m = true) : lessS a k c m = true := by
  unfold lessS at *
  split at h <;> split at h' <;> split <;> simp at * <;> omega

theorem next_up {a k b l : Int} (h : mayS a k = true) (h' : mayS b l = true) : lessS a k (nextS a k b l) k = true ∧ lessS b l (nextS a k b l) k = true := by
  simp only [nextS, h, h']
  unfold lessS
  have : a < max a b + 1 := by omega
  have : b < max a b + 1 := by omega
  constructor
  · rw [if_neg (by simp; omega)]; simp; omega
  · rw [if_neg (by simp; omega)]; simp; omega

theorem one_less (a k b l : Int) : (lessS a k b l = true ∧ lessS b l a k = false ∧ (!(a == b && k == l)) = true) ∨ (lessS a k b l = false ∧ lessS b l a k = true ∧ (!(a == b && k == l)) = true) ∨ (lessS a k b l = false ∧ lessS b l a k = false ∧ (!(a == b && k == l)) = false) := by
  unfold lessS
  rcases Int.lt_trichotomy a b with h | h | h
  · left
    rw [if_neg (by omega), if_neg (by omega)]
    simp; omega
  · subst h
    rcases Int.lt_trichotomy k l with h | h | h
    · left; simp; omega
    · right; right; subst h; simp
    · right; left; simp; omega
  · right; left
    rw [if_neg (by omega), if_neg (by omega)]
    simp; omega

set_option maxRecDepth 100000 in
set_option maxHeartbeats 8000000 in
theorem walk1 (a k b l c m : Int) (w : World) (h1 : mayS a k = false) :
    Calls Try.prog 4 #[.agg #[.int .i64 a, .int .i64 k], .agg #[.int .i64 b, .int .i64 l], .agg #[.int .i64 c, .int .i64 m]] w fun e w' => e = .returned (.bool true) ∧ Below w.heap.size w w' := by
  have P1 := p_may a k
  have P3 := p_next a k b l
  rw [show nextS a k b l = a by simp [nextS, h1]] at P3
  rw [h1] at P1
  clear h1
  have E : ∀ w, (binOp .eql 23 (.agg #[.int .i64 a, .int .i64 k]) (.agg #[.int .i64 a, .int .i64 k])).run Try.prog w = .ok (.bool true) w := by
    intro w; rw [eq_st]; simp
  obtain ⟨U, X, HU, HS⟩ := boxes3 w a k b l c m
  go_enter Try.func4, Try.ntmps4
  go_upto_region 1 with fail
  rw [HU.out.1, HU.out.2]
  clear HU
  go_wp2_with fail
  refine (awake_any _).mono ?_
  rintro e w1 ⟨rfl, k1⟩
  have HS : Hid (Kept [] w w1 ∧ w1.cell? ⟨X, 0, none⟩ = some (.int .i64 a) ∧ w1.cell? ⟨X, 1, none⟩ = some (.int .i64 k) ∧ w1.cell? ⟨X + 1, 0, none⟩ = some (.int .i64 b) ∧ w1.cell? ⟨X + 1, 1, none⟩ = some (.int .i64 l) ∧ w1.cell? ⟨X + 1 + 1, 0, none⟩ = some (.int .i64 c) ∧ w1.cell? ⟨X + 1 + 1, 1, none⟩ = some (.int .i64 m)) := s3_kept HS.out k1
  clear k1
  obtain ⟨-, x0, x1, y0, y1, u0, u1⟩ := HS.out
  go_upto_region 3 with fail
  go_cut [23] from 10 to 24 (fun v wx => v = .bool false ∧ Hid (Kept [] w wx ∧ wx.cell? ⟨X, 0, none⟩ = some (.int .i64 a) ∧ wx.cell? ⟨X, 1, none⟩ = some (.int .i64 k) ∧ wx.cell? ⟨X + 1, 0, none⟩ = some (.int .i64 b) ∧ wx.cell? ⟨X + 1, 1, none⟩ = some (.int .i64 l) ∧ wx.cell? ⟨X + 1 + 1, 0, none⟩ = some (.int .i64 c) ∧ wx.cell? ⟨X + 1 + 1, 1, none⟩ = some (.int .i64 m)))
  case first =>
    rcases h1 : lessS a k b l with _ | _
    · have P1 := p_less a k b l
      rw [h1] at P1
      clear h1
      go_wp2_with fail
      refine (P1 _).mono ?_
      rintro e w2 ⟨rfl, k1⟩
      have HS : Hid (Kept [] w w2 ∧ w2.cell? ⟨X, 0, none⟩ = some (.int .i64 a) ∧ w2.cell? ⟨X, 1, none⟩ = some (.int .i64 k) ∧ w2.cell? ⟨X + 1, 0, none⟩ = some (.int .i64 b) ∧ w2.cell? ⟨X + 1, 1, none⟩ = some (.int .i64 l) ∧ w2.cell? ⟨X + 1 + 1, 0, none⟩ = some (.int .i64 c) ∧ w2.cell? ⟨X + 1 + 1, 1, none⟩ = some (.int .i64 m)) := s3_kept HS.out k1
      clear k1
      obtain ⟨-, x0, x1, y0, y1, u0, u1⟩ := HS.out
      go_wp2_with fail
      go_meet
      case rel => exact ⟨rfl, HS.out⟩
    · rcases h2 : lessS b l c m with _ | _
      · have P1 := p_less a k b l
        have P2 := p_less b l c m
        rw [h1] at P1
        rw [h2] at P2
        clear h1 h2
        go_wp2_with fail
        refine (P1 _).mono ?_
        rintro e w2 ⟨rfl, k1⟩
        have HS : Hid (Kept [] w w2 ∧ w2.cell? ⟨X, 0, none⟩ = some (.int .i64 a) ∧ w2.cell? ⟨X, 1, none⟩ = some (.int .i64 k) ∧ w2.cell? ⟨X + 1, 0, none⟩ = some (.int .i64 b) ∧ w2.cell? ⟨X + 1, 1, none⟩ = some (.int .i64 l) ∧ w2.cell? ⟨X + 1 + 1, 0, none⟩ = some (.int .i64 c) ∧ w2.cell? ⟨X + 1 + 1, 1, none⟩ = some (.int .i64 m)) := s3_kept HS.out k1
        clear k1
        obtain ⟨-, x0, x1, y0, y1, u0, u1⟩ := HS.out
        go_wp2_with fail
        refine (P2 _).mono ?_
        rintro e w3 ⟨rfl, k1⟩
        have HS : Hid (Kept [] w w3 ∧ w3.cell? ⟨X, 0, none⟩ = some (.int .i64 a) ∧ w3.cell? ⟨X, 1, none⟩ = some (.int .i64 k) ∧ w3.cell? ⟨X + 1, 0, none⟩ = some (.int .i64 b) ∧ w3.cell? ⟨X + 1, 1, none⟩ = some (.int .i64 l) ∧ w3.cell? ⟨X + 1 + 1, 0, none⟩ = some (.int .i64 c) ∧ w3.cell? ⟨X + 1 + 1, 1, none⟩ = some (.int .i64 m)) := s3_kept HS.out k1
        clear k1
        obtain ⟨-, x0, x1, y0, y1, u0, u1⟩ := HS.out
        go_wp2_with fail
        go_meet
        case rel => exact ⟨rfl, HS.out⟩
      · have h3 := less_trans h1 h2
        have P1 := p_less a k b l
        have P2 := p_less b l c m
        have P3 := p_less a k c m
        rw [h1] at P1
        rw [h2] at P2
        rw [h3] at P3
        clear h1 h2 h3
        go_wp2_with fail
        refine (P1 _).mono ?_
        rintro e w2 ⟨rfl, k1⟩
        have HS : Hid (Kept [] w w2 ∧ w2.cell? ⟨X, 0, none⟩ = some (.int .i64 a) ∧ w2.cell? ⟨X, 1, none⟩ = some (.int .i64 k) ∧ w2.cell? ⟨X + 1, 0, none⟩ = some (.int .i64 b) ∧ w2.cell? ⟨X + 1, 1, none⟩ = some (.int .i64 l) ∧ w2.cell? ⟨X + 1 + 1, 0, none⟩ = some (.int .i64 c) ∧ w2.cell? ⟨X + 1 + 1, 1, none⟩ = some (.int .i64 m)) := s3_kept HS.out k1
        clear k1
        obtain ⟨-, x0, x1, y0, y1, u0, u1⟩ := HS.out
        go_wp2_with fail
        refine (P2 _).mono ?_
        rintro e w3 ⟨rfl, k1⟩
        have HS : Hid (Kept [] w w3 ∧ w3.cell? ⟨X, 0, none⟩ = some (.int .i64 a) ∧ w3.cell? ⟨X, 1, none⟩ = some (.int .i64 k) ∧ w3.cell? ⟨X + 1, 0, none⟩ = some (.int .i64 b) ∧ w3.cell? ⟨X + 1, 1, none⟩ = some (.int .i64 l) ∧ w3.cell? ⟨X + 1 + 1, 0, none⟩ = some (.int .i64 c) ∧ w3.cell? ⟨X + 1 + 1, 1, none⟩ = some (.int .i64 m)) := s3_kept HS.out k1
        clear k1
        obtain ⟨-, x0, x1, y0, y1, u0, u1⟩ := HS.out
        go_wp2_with fail
        refine (P3 _).mono ?_
        rintro e w4 ⟨rfl, k1⟩
        have HS : Hid (Kept [] w w4 ∧ w4.cell? ⟨X, 0, none⟩ = some (.int .i64 a) ∧ w4.cell? ⟨X, 1, none⟩ = some (.int .i64 k) ∧ w4.cell? ⟨X + 1, 0, none⟩ = some (.int .i64 b) ∧ w4.cell? ⟨X + 1, 1, none⟩ = some (.int .i64 l) ∧ w4.cell? ⟨X + 1 + 1, 0, none⟩ = some (.int .i64 c) ∧ w4.cell? ⟨X + 1 + 1, 1, none⟩ = some (.int .i64 m)) := s3_kept HS.out k1
        clear k1
        obtain ⟨-, x0, x1, y0, y1, u0, u1⟩ := HS.out
        go_wp2_with fail
        go_meet
        case rel => exact ⟨rfl, HS.out⟩
  case rest =>
    obtain ⟨rfl, HS⟩ := hcut
    obtain ⟨-, x0, x1, y0, y1, u0, u1⟩ := HS.out
    go_wp2_with fail
    refine (P1 _).mono ?_
    rintro e w5 ⟨rfl, k1⟩
    have HS : Hid (Kept [] w w5 ∧ w5.cell? ⟨X, 0, none⟩ = some (.int .i64 a) ∧ w5.cell? ⟨X, 1, none⟩ = some (.int .i64 k) ∧ w5.cell? ⟨X + 1, 0, none⟩ = some (.int .i64 b) ∧ w5.cell? ⟨X + 1, 1, none⟩ = some (.int .i64 l) ∧ w5.cell? ⟨X + 1 + 1, 0, none⟩ = some (.int .i64 c) ∧ w5.cell? ⟨X + 1 + 1, 1, none⟩ = some (.int .i64 m)) := s3_kept HS.out k1
    clear k1
    obtain ⟨-, x0, x1, y0, y1, u0, u1⟩ := HS.out
    go_upto_region 6 with fail
    refine wp_region_held_drew (S := fun w' => Kept [] w w' ∧ w'.cell? ⟨X, 0, none⟩ = some (.int .i64 a) ∧ w'.cell? ⟨X, 1, none⟩ = some (.int .i64 k) ∧ w'.cell? ⟨X + 1, 0, none⟩ = some (.int .i64 b) ∧ w'.cell? ⟨X + 1, 1, none⟩ = some (.int .i64 l) ∧ w'.cell? ⟨X + 1 + 1, 0, none⟩ = some (.int .i64 c) ∧ w'.cell? ⟨X + 1 + 1, 1, none⟩ = some (.int .i64 m)) (by kernel_rfl) ?_ (fun hHeld => ?_)
    · exact s3_drew HS.out
    refine wpAnyH_take (i := 0) (v := ?vv10) rfl (by kernel_rfl) (by kernel_rfl) (by kernel_rfl) (fun _ _ _ h => h) (Or.inl ⟨by rfl, ?hyv10⟩) (by assumption) ?_
    case hyv10 =>
      intro w hSw
      (try dsimp only at hSw)
      go_simp
      try with_reducible rfl
    try simp only [Act.put, List.setIfInBounds_toArray, List.set_cons_zero, List.set_cons_succ, List.getElem_toArray, List.getElem_cons_zero, List.getElem_cons_succ]
    refine wpAnyH_take (i := 1) (v := ?vv11) rfl (by kernel_rfl) (by kernel_rfl) (by kernel_rfl) (fun _ _ _ h => h) (Or.inl ⟨by rfl, ?hyv11⟩) (by assumption) ?_
    case hyv11 =>
      intro w hSw
      (try dsimp only at hSw)
      go_simp
      try with_reducible rfl
    try simp only [Act.put, List.setIfInBounds_toArray, List.set_cons_zero, List.set_cons_succ, List.getElem_toArray, List.getElem_cons_zero, List.getElem_cons_succ]
    refine wpAnyH_take (i := 3) (v := ?vv13) rfl (by kernel_rfl) (by kernel_rfl) (by kernel_rfl) (fun _ _ _ h => h) (Or.inl ⟨by rfl, ?hyv13⟩) (by assumption) ?_
    case hyv13 =>
      intro w hSw
      (try dsimp only at hSw)
      go_simp
      try with_reducible rfl
    try simp only [Act.put, List.setIfInBounds_toArray, List.set_cons_zero, List.set_cons_succ, List.getElem_toArray, List.getElem_cons_zero, List.getElem_cons_succ]
    refine wpAnyH_ready (rs := [2]) (by kernel_rfl) (by simp) ?_
    refine AllReadyH.cons rfl (fun K hK => ?_) AllReadyH.nil
    go_simp
    refine (P3 _).mono ?_
    rintro e w9 ⟨rfl, k9⟩
    have z9 := s3_kept (by assumption) k9
    go_wp2_with fail
    refine hK.out _ _ ?_ (fun hHeld => ?_)
    · exact z9
    clear hK K
    try simp only [Act.put, List.setIfInBounds_toArray, List.set_cons_zero, List.set_cons_succ, List.getElem_toArray, List.getElem_cons_zero, List.getElem_cons_succ]
    refine wpAnyH_take (i := 4) (v := ?vv14) rfl (by kernel_rfl) (by kernel_rfl) (by kernel_rfl) (fun _ _ _ h => h) (Or.inl ⟨by rfl, ?hyv14⟩) (by assumption) ?_
    case hyv14 =>
      intro w hSw
      (try dsimp only at hSw)
      go_simp
      try with_reducible rfl
    try simp only [Act.put, List.setIfInBounds_toArray, List.set_cons_zero, List.set_cons_succ, List.getElem_toArray, List.getElem_cons_zero, List.getElem_cons_succ]
    refine wpAnyH_take (i := 5) (v := ?vv15) rfl (by kernel_rfl) (by kernel_rfl) (by kernel_rfl) (fun _ _ _ h => h) (Or.inl ⟨by rfl, ?hyv15⟩) (by assumption) ?_
    case hyv15 =>
      intro w hSw
      (try dsimp only at hSw)
      go_simp
      try with_reducible rfl
    try simp only [Act.put, List.setIfInBounds_toArray, List.set_cons_zero, List.set_cons_succ, List.getElem_toArray, List.getElem_cons_zero, List.getElem_cons_succ]
    refine wpAnyH_done (by kernel_rfl) ?_ _
    have HZ : Hid (_) := hHeld.1
    clear hHeld
    go_wp2_with fail
    go_ret
    exact ⟨rfl, HZ.out.below (Nat.le_refl _) (by simp)⟩

set_option maxRecDepth 100000 in
set_option maxHeartbeats 8000000 in
theorem walk2 (a k b l c m : Int) (w : World) (h1 : mayS a k = true) (h2 : mayS b l = false) :
    Calls Try.prog 4 #[.agg #[.int .i64 a, .int .i64 k], .agg #[.int .i64 b, .int .i64 l], .agg #[.int .i64 c, .int .i64 m]] w fun e w' => e = .returned (.bool true) ∧ Below w.heap.size w w' := by
  have P1 := p_may a k
  have P2 := p_may b l
  have P3 := p_next a k b l
  rw [show nextS a k b l = a by simp [nextS, h1, h2]] at P3
  rw [h1] at P1
  rw [h2] at P2
  clear h1 h2
  have E : ∀ w, (binOp .eql 23 (.agg #[.int .i64 a, .int .i64 k]) (.agg #[.int .i64 a, .int .i64 k])).run Try.prog w = .ok (.bool true) w := by
    intro w; rw [eq_st]; simp
  obtain ⟨U, X, HU, HS⟩ := boxes3 w a k b l c m
  go_enter Try.func4, Try.ntmps4
  go_upto_region 1 with fail
  rw [HU.out.1, HU.out.2]
  clear HU
  go_wp2_with fail
  refine (awake_any _).mono ?_
  rintro e w1 ⟨rfl, k1⟩
  have HS : Hid (Kept [] w w1 ∧ w1.cell? ⟨X, 0, none⟩ = some (.int .i64 a) ∧ w1.cell? ⟨X, 1, none⟩ = some (.int .i64 k) ∧ w1.cell? ⟨X + 1, 0, none⟩ = some (.int .i64 b) ∧ w1.cell? ⟨X + 1, 1, none⟩ = some (.int .i64 l) ∧ w1.cell? ⟨X + 1 + 1, 0, none⟩ = some (.int .i64 c) ∧ w1.cell? ⟨X + 1 + 1, 1, none⟩ = some (.int .i64 m)) := s3_kept HS.out k1
  clear k1
  obtain ⟨-, x0, x1, y0, y1, u0, u1⟩ := HS.out
  go_upto_region 3 with fail
  go_cut [23] from 10 to 24 (fun v wx => v = .bool false ∧ Hid (Kept [] w wx ∧ wx.cell? ⟨X, 0, none⟩ = some (.int .i64 a) ∧ wx.cell? ⟨X, 1, none⟩ = some (.int .i64 k) ∧ wx.cell? ⟨X + 1, 0, none⟩ = some (.int .i64 b) ∧ wx.cell? ⟨X + 1, 1, none⟩ = some (.int .i64 l) ∧ wx.cell? ⟨X + 1 + 1, 0, none⟩ = some (.int .i64 c) ∧ wx.cell? ⟨X + 1 + 1, 1, none⟩ = some (.int .i64 m)))
  case first =>
    rcases h1 : lessS a k b l with _ | _
    · have P1 := p_less a k b l
      rw [h1] at P1
      clear h1
      go_wp2_with fail
      refine (P1 _).mono ?_
      rintro e w2 ⟨rfl, k1⟩
      have HS : Hid (Kept [] w w2 ∧ w2.cell? ⟨X, 0, none⟩ = some (.int .i64 a) ∧ w2.cell? ⟨X, 1, none⟩ = some (.int .i64 k) ∧ w2.cell? ⟨X + 1, 0, none⟩ = some (.int .i64 b) ∧ w2.cell? ⟨X + 1, 1, none⟩ = some (.int .i64 l) ∧ w2.cell? ⟨X + 1 + 1, 0, none⟩ = some (.int .i64 c) ∧ w2.cell? ⟨X + 1 + 1, 1, none⟩ = some (.int .i64 m)) := s3_kept HS.out k1
      clear k1
      obtain ⟨-, x0, x1, y0, y1, u0, u1⟩ := HS.out
      go_wp2_with fail
      go_meet
      case rel => exact ⟨rfl, HS.out⟩
    · rcases h2 : lessS b l c m with _ | _
      · have P1 := p_less a k b l
        have P2 := p_less b l c m
        rw [h1] at P1
        rw [h2] at P2
        clear h1 h2
        go_wp2_with fail
        refine (P1 _).mono ?_
        rintro e w2 ⟨rfl, k1⟩
        have HS : Hid (Kept [] w w2 ∧ w2.cell? ⟨X, 0, none⟩ = some (.int .i64 a) ∧ w2.cell? ⟨X, 1, none⟩ = some (.int .i64 k) ∧ w2.cell? ⟨X + 1, 0, none⟩ = some (.int .i64 b) ∧ w2.cell? ⟨X + 1, 1, none⟩ = some (.int .i64 l) ∧ w2.cell? ⟨X + 1 + 1, 0, none⟩ = some (.int .i64 c) ∧ w2.cell? ⟨X + 1 + 1, 1, none⟩ = some (.int .i64 m)) := s3_kept HS.out k1
        clear k1
        obtain ⟨-, x0, x1, y0, y1, u0, u1⟩ := HS.out
        go_wp2_with fail
        refine (P2 _).mono ?_
        rintro e w3 ⟨rfl, k1⟩
        have HS : Hid (Kept [] w w3 ∧ w3.cell? ⟨X, 0, none⟩ = some (.int .i64 a) ∧ w3.cell? ⟨X, 1, none⟩ = some (.int .i64 k) ∧ w3.cell? ⟨X + 1, 0, none⟩ = some (.int .i64 b) ∧ w3.cell? ⟨X + 1, 1, none⟩ = some (.int .i64 l) ∧ w3.cell? ⟨X + 1 + 1, 0, none⟩ = some (.int .i64 c) ∧ w3.cell? ⟨X + 1 + 1, 1, none⟩ = some (.int .i64 m)) := s3_kept HS.out k1
        clear k1
        obtain ⟨-, x0, x1, y0, y1, u0, u1⟩ := HS.out
        go_wp2_with fail
        go_meet
        case rel => exact ⟨rfl, HS.out⟩
      · have h3 := less_trans h1 h2
        have P1 := p_less a k b l
        have P2 := p_less b l c m
        have P3 := p_less a k c m
        rw [h1] at P1
        rw [h2] at P2
        rw [h3] at P3
        clear h1 h2 h3
        go_wp2_with fail
        refine (P1 _).mono ?_
        rintro e w2 ⟨rfl, k1⟩
        have HS : Hid (Kept [] w w2 ∧ w2.cell? ⟨X, 0, none⟩ = some (.int .i64 a) ∧ w2.cell? ⟨X, 1, none⟩ = some (.int .i64 k) ∧ w2.cell? ⟨X + 1, 0, none⟩ = some (.int .i64 b) ∧ w2.cell? ⟨X + 1, 1, none⟩ = some (.int .i64 l) ∧ w2.cell? ⟨X + 1 + 1, 0, none⟩ = some (.int .i64 c) ∧ w2.cell? ⟨X + 1 + 1, 1, none⟩ = some (.int .i64 m)) := s3_kept HS.out k1
        clear k1
        obtain ⟨-, x0, x1, y0, y1, u0, u1⟩ := HS.out
        go_wp2_with fail
        refine (P2 _).mono ?_
        rintro e w3 ⟨rfl, k1⟩
        have HS : Hid (Kept [] w w3 ∧ w3.cell? ⟨X, 0, none⟩ = some (.int .i64 a) ∧ w3.cell? ⟨X, 1, none⟩ = some (.int .i64 k) ∧ w3.cell? ⟨X + 1, 0, none⟩ = some (.int .i64 b) ∧ w3.cell? ⟨X + 1, 1, none⟩ = some (.int .i64 l) ∧ w3.cell? ⟨X + 1 + 1, 0, none⟩ = some (.int .i64 c) ∧ w3.cell? ⟨X + 1 + 1, 1, none⟩ = some (.int .i64 m)) := s3_kept HS.out k1
        clear k1
        obtain ⟨-, x0, x1, y0, y1, u0, u1⟩ := HS.out
        go_wp2_with fail
        refine (P3 _).mono ?_
        rintro e w4 ⟨rfl, k1⟩
        have HS : Hid (Kept [] w w4 ∧ w4.cell? ⟨X, 0, none⟩ = some (.int .i64 a) ∧ w4.cell? ⟨X, 1, none⟩ = some (.int .i64 k) ∧ w4.cell? ⟨X + 1, 0, none⟩ = some (.int .i64 b) ∧ w4.cell? ⟨X + 1, 1, none⟩ = some (.int .i64 l) ∧ w4.cell? ⟨X + 1 + 1, 0, none⟩ = some (.int .i64 c) ∧ w4.cell? ⟨X + 1 + 1, 1, none⟩ = some (.int .i64 m)) := s3_kept HS.out k1
        clear k1
        obtain ⟨-, x0, x1, y0, y1, u0, u1⟩ := HS.out
        go_wp2_with fail
        go_meet
        case rel => exact ⟨rfl, HS.out⟩
  case rest =>
    obtain ⟨rfl, HS⟩ := hcut
    obtain ⟨-, x0, x1, y0, y1, u0, u1⟩ := HS.out
    go_wp2_with fail
    refine (P1 _).mono ?_
    rintro e w5 ⟨rfl, k1⟩
    have HS : Hid (Kept [] w w5 ∧ w5.cell? ⟨X, 0, none⟩ = some (.int .i64 a) ∧ w5.cell? ⟨X, 1, none⟩ = some (.int .i64 k) ∧ w5.cell? ⟨X + 1, 0, none⟩ = some (.int .i64 b) ∧ w5.cell? ⟨X + 1, 1, none⟩ = some (.int .i64 l) ∧ w5.cell? ⟨X + 1 + 1, 0, none⟩ = some (.int .i64 c) ∧ w5.cell? ⟨X + 1 + 1, 1, none⟩ = some (.int .i64 m)) := s3_kept HS.out k1
    clear k1
    obtain ⟨-, x0, x1, y0, y1, u0, u1⟩ := HS.out
    go_wp2_with fail
    refine (P2 _).mono ?_
    rintro e w6 ⟨rfl, k1⟩
    have HS : Hid (Kept [] w w6 ∧ w6.cell? ⟨X, 0, none⟩ = some (.int .i64 a) ∧ w6.cell? ⟨X, 1, none⟩ = some (.int .i64 k) ∧ w6.cell? ⟨X + 1, 0, none⟩ = some (.int .i64 b) ∧ w6.cell? ⟨X + 1, 1, none⟩ = some (.int .i64 l) ∧ w6.cell? ⟨X + 1 + 1, 0, none⟩ = some (.int .i64 c) ∧ w6.cell? ⟨X + 1 + 1, 1, none⟩ = some (.int .i64 m)) := s3_kept HS.out k1
    clear k1
    obtain ⟨-, x0, x1, y0, y1, u0, u1⟩ := HS.out
    go_upto_region 6 with fail
    refine wp_region_held_drew (S := fun w' => Kept [] w w' ∧ w'.cell? ⟨X, 0, none⟩ = some (.int .i64 a) ∧ w'.cell? ⟨X, 1, none⟩ = some (.int .i64 k) ∧ w'.cell? ⟨X + 1, 0, none⟩ = some (.int .i64 b) ∧ w'.cell? ⟨X + 1, 1, none⟩ = some (.int .i64 l) ∧ w'.cell? ⟨X + 1 + 1, 0, none⟩ = some (.int .i64 c) ∧ w'.cell? ⟨X + 1 + 1, 1, none⟩ = some (.int .i64 m)) (by kernel_rfl) ?_ (fun hHeld => ?_)
    · exact s3_drew HS.out
    refine wpAnyH_take (i := 0) (v := ?vv20) rfl (by kernel_rfl) (by kernel_rfl) (by kernel_rfl) (fun _ _ _ h => h) (Or.inl ⟨by rfl, ?hyv20⟩) (by assumption) ?_
    case hyv20 =>
      intro w hSw
      (try dsimp only at hSw)
      go_simp
      try with_reducible rfl
    try simp only [Act.put, List.setIfInBounds_toArray, List.set_cons_zero, List.set_cons_succ, List.getElem_toArray, List.getElem_cons_zero, List.getElem_cons_succ]
    refine wpAnyH_take (i := 1) (v := ?vv21) rfl (by kernel_rfl) (by kernel_rfl) (by kernel_rfl) (fun _ _ _ h => h) (Or.inl ⟨by rfl, ?hyv21⟩) (by assumption) ?_
    case hyv21 =>
      intro w hSw
      (try dsimp only at hSw)
      go_simp
      try with_reducible rfl
    try simp only [Act.put, List.setIfInBounds_toArray, List.set_cons_zero, List.set_cons_succ, List.getElem_toArray, List.getElem_cons_zero, List.getElem_cons_succ]
    refine wpAnyH_take (i := 3) (v := ?vv23) rfl (by kernel_rfl) (by kernel_rfl) (by kernel_rfl) (fun _ _ _ h => h) (Or.inl ⟨by rfl, ?hyv23⟩) (by assumption) ?_
    case hyv23 =>
      intro w hSw
      (try dsimp only at hSw)
      go_simp
      try with_reducible rfl
    try simp only [Act.put, List.setIfInBounds_toArray, List.set_cons_zero, List.set_cons_succ, List.getElem_toArray, List.getElem_cons_zero, List.getElem_cons_succ]
    refine wpAnyH_ready (rs := [2]) (by kernel_rfl) (by simp) ?_
    refine AllReadyH.cons rfl (fun K hK => ?_) AllReadyH.nil
    go_simp
    refine (P3 _).mono ?_
    rintro e w9 ⟨rfl, k9⟩
    have z9 := s3_kept (by assumption) k9
    go_wp2_with fail
    refine hK.out _ _ ?_ (fun hHeld => ?_)
    · exact z9
    clear hK K
    try simp only [Act.put, List.setIfInBounds_toArray, List.set_cons_zero, List.set_cons_succ, List.getElem_toArray, List.getElem_cons_zero, List.getElem_cons_succ]
    refine wpAnyH_take (i := 4) (v := ?vv24) rfl (by kernel_rfl) (by kernel_rfl) (by kernel_rfl) (fun _ _ _ h => h) (Or.inl ⟨by rfl, ?hyv24⟩) (by assumption) ?_
    case hyv24 =>
      intro w hSw
      (try dsimp only at hSw)
      go_simp
      try with_reducible rfl
    try simp only [Act.put, List.setIfInBounds_toArray, List.set_cons_zero, List.set_cons_succ, List.getElem_toArray, List.getElem_cons_zero, List.getElem_cons_succ]
    refine wpAnyH_take (i := 5) (v := ?vv25) rfl (by kernel_rfl) (by kernel_rfl) (by kernel_rfl) (fun _ _ _ h => h) (Or.inl ⟨by rfl, ?hyv25⟩) (by assumption) ?_
    case hyv25 =>
      intro w hSw
      (try dsimp only at hSw)
      go_simp
      try with_reducible rfl
    try simp only [Act.put, List.setIfInBounds_toArray, List.set_cons_zero, List.set_cons_succ, List.getElem_toArray, List.getElem_cons_zero, List.getElem_cons_succ]
    refine wpAnyH_done (by kernel_rfl) ?_ _
    have HZ : Hid (_) := hHeld.1
    clear hHeld
    go_wp2_with fail
    go_ret
    exact ⟨rfl, HZ.out.below (Nat.le_refl _) (by simp)⟩

set_option maxRecDepth 100000 in
set_option maxHeartbeats 8000000 in
theorem walk3 (a k b l c m : Int) (w : World) (h1 : mayS a k = true) (h2 : mayS b l = true) (h3 : lessS a k b l = true) (h4 : lessS b l a k = false) (h5 : (!(a == b && k == l)) = true) :
    Calls Try.prog 4 #[.agg #[.int .i64 a, .int .i64 k], .agg #[.int .i64 b, .int .i64 l], .agg #[.int .i64 c, .int .i64 m]] w fun e w' => e = .returned (.bool true) ∧ Below w.heap.size w w' := by
  obtain ⟨h6, h7⟩ := next_up h1 h2
  have P1 := p_may a k
  have P2 := p_may b l
  have P3 := p_next a k b l
  rw [h1] at P1
  rw [h2] at P2
  obtain ⟨n, hn⟩ : ∃ n, n = nextS a k b l := ⟨_, rfl⟩
  rw [← hn] at P3 h6 h7
  have P4 := p_less a k n k
  have P5 := p_less b l n k
  have P6 := p_less a k b l
  have P7 := p_less b l a k
  rw [h6] at P4
  rw [h7] at P5
  rw [h3] at P6
  rw [h4] at P7
  have E : ∀ w, (binOp .neq 23 (.agg #[.int .i64 a, .int .i64 k]) (.agg #[.int .i64 b, .int .i64 l])).run Try.prog w = .ok (.bool true) w := by
    intro w; rw [neq_st, h5]
  have hkk : (k == k) = true := by simp
  clear h1 h2 h3 h4 h5 h6 h7 hn
  obtain ⟨U, X, HU, HS⟩ := boxes3 w a k b l c m
  go_enter Try.func4, Try.ntmps4
  go_upto_region 1 with fail
  rw [HU.out.1, HU.out.2]
  clear HU
  go_wp2_with fail
  refine (awake_any _).mono ?_
  rintro e w1 ⟨rfl, k1⟩
  have HS : Hid (Kept [] w w1 ∧ w1.cell? ⟨X, 0, none⟩ = some (.int .i64 a) ∧ w1.cell? ⟨X, 1, none⟩ = some (.int .i64 k) ∧ w1.cell? ⟨X + 1, 0, none⟩ = some (.int .i64 b) ∧ w1.cell? ⟨X + 1, 1, none⟩ = some (.int .i64 l) ∧ w1.cell? ⟨X + 1 + 1, 0, none⟩ = some (.int .i64 c) ∧ w1.cell? ⟨X + 1 + 1, 1, none⟩ = some (.int .i64 m)) := s3_kept HS.out k1
  clear k1
  obtain ⟨-, x0, x1, y0, y1, u0, u1⟩ := HS.out
  go_upto_region 3 with fail
  go_cut [23] from 10 to 24 (fun v wx => v = .bool false ∧ Hid (Kept [] w wx ∧ wx.cell? ⟨X, 0, none⟩ = some (.int .i64 a) ∧ wx.cell? ⟨X, 1, none⟩ = some (.int .i64 k) ∧ wx.cell? ⟨X + 1, 0, none⟩ = some (.int .i64 b) ∧ wx.cell? ⟨X + 1, 1, none⟩ = some (.int .i64 l) ∧ wx.cell? ⟨X + 1 + 1, 0, none⟩ = some (.int .i64 c) ∧ wx.cell? ⟨X + 1 + 1, 1, none⟩ = some (.int .i64 m)))
  case first =>
    rcases h1 : lessS a k b l with _ | _
    · have P1 := p_less a k b l
      rw [h1] at P1
      clear h1
      go_wp2_with fail
      refine (P1 _).mono ?_
      rintro e w2 ⟨rfl, k1⟩
      have HS : Hid (Kept [] w w2 ∧ w2.cell? ⟨X, 0, none⟩ = some (.int .i64 a) ∧ w2.cell? ⟨X, 1, none⟩ = some (.int .i64 k) ∧ w2.cell? ⟨X + 1, 0, none⟩ = some (.int .i64 b) ∧ w2.cell? ⟨X + 1, 1, none⟩ = some (.int .i64 l) ∧ w2.cell? ⟨X + 1 + 1, 0, none⟩ = some (.int .i64 c) ∧ w2.cell? ⟨X + 1 + 1, 1, none⟩ = some (.int .i64 m)) := s3_kept HS.out k1
      clear k1
      obtain ⟨-, x0, x1, y0, y1, u0, u1⟩ := HS.out
      go_wp2_with fail
      go_meet
      case rel => exact ⟨rfl, HS.out⟩
    · rcases h2 : lessS b l c m with _ | _
      · have P1 := p_less a k b l
        have P2 := p_less b l c m
        rw [h1] at P1
        rw [h2] at P2
        clear h1 h2
        go_wp2_with fail
        refine (P1 _).mono ?_
        rintro e w2 ⟨rfl, k1⟩
        have HS : Hid (Kept [] w w2 ∧ w2.cell? ⟨X, 0, none⟩ = some (.int .i64 a) ∧ w2.cell? ⟨X, 1, none⟩ = some (.int .i64 k) ∧ w2.cell? ⟨X + 1, 0, none⟩ = some (.int .i64 b) ∧ w2.cell? ⟨X + 1, 1, none⟩ = some (.int .i64 l) ∧ w2.cell? ⟨X + 1 + 1, 0, none⟩ = some (.int .i64 c) ∧ w2.cell? ⟨X + 1 + 1, 1, none⟩ = some (.int .i64 m)) := s3_kept HS.out k1
        clear k1
        obtain ⟨-, x0, x1, y0, y1, u0, u1⟩ := HS.out
        go_wp2_with fail
        refine (P2 _).mono ?_
        rintro e w3 ⟨rfl, k1⟩
        have HS : Hid (Kept [] w w3 ∧ w3.cell? ⟨X, 0, none⟩ = some (.int .i64 a) ∧ w3.cell? ⟨X, 1, none⟩ = some (.int .i64 k) ∧ w3.cell? ⟨X + 1, 0, none⟩ = some (.int .i64 b) ∧ w3.cell? ⟨X + 1, 1, none⟩ = some (.int .i64 l) ∧ w3.cell? ⟨X + 1 + 1, 0, none⟩ = some (.int .i64 c) ∧ w3.cell? ⟨X + 1 + 1, 1, none⟩ = some (.int .i64 m)) := s3_kept HS.out k1
        clear k1
        obtain ⟨-, x0, x1, y0, y1, u0, u1⟩ := HS.out
        go_wp2_with fail
        go_meet
        case rel => exact ⟨rfl, HS.out⟩
      · have h3 := less_trans h1 h2
        have P1 := p_less a k b l
        have P2 := p_less b l c m
        have P3 := p_less a k c m
        rw [h1] at P1
        rw [h2] at P2
        rw [h3] at P3
        clear h1 h2 h3
        go_wp2_with fail
        refine (P1 _).mono ?_
        rintro e w2 ⟨rfl, k1⟩
        have HS : Hid (Kept [] w w2 ∧ w2.cell? ⟨X, 0, none⟩ = some (.int .i64 a) ∧ w2.cell? ⟨X, 1, none⟩ = some (.int .i64 k) ∧ w2.cell? ⟨X + 1, 0, none⟩ = some (.int .i64 b) ∧ w2.cell? ⟨X + 1, 1, none⟩ = some (.int .i64 l) ∧ w2.cell? ⟨X + 1 + 1, 0, none⟩ = some (.int .i64 c) ∧ w2.cell? ⟨X + 1 + 1, 1, none⟩ = some (.int .i64 m)) := s3_kept HS.out k1
        clear k1
        obtain ⟨-, x0, x1, y0, y1, u0, u1⟩ := HS.out
        go_wp2_with fail
        refine (P2 _).mono ?_
        rintro e w3 ⟨rfl, k1⟩
        have HS : Hid (Kept [] w w3 ∧ w3.cell? ⟨X, 0, none⟩ = some (.int .i64 a) ∧ w3.cell? ⟨X, 1, none⟩ = some (.int .i64 k) ∧ w3.cell? ⟨X + 1, 0, none⟩ = some (.int .i64 b) ∧ w3.cell? ⟨X + 1, 1, none⟩ = some (.int .i64 l) ∧ w3.cell? ⟨X + 1 + 1, 0, none⟩ = some (.int .i64 c) ∧ w3.cell? ⟨X + 1 + 1, 1, none⟩ = some (.int .i64 m)) := s3_kept HS.out k1
        clear k1
        obtain ⟨-, x0, x1, y0, y1, u0, u1⟩ := HS.out
        go_wp2_with fail
        refine (P3 _).mono ?_
        rintro e w4 ⟨rfl, k1⟩
        have HS : Hid (Kept [] w w4 ∧ w4.cell? ⟨X, 0, none⟩ = some (.int .i64 a) ∧ w4.cell? ⟨X, 1, none⟩ = some (.int .i64 k) ∧ w4.cell? ⟨X + 1, 0, none⟩ = some (.int .i64 b) ∧ w4.cell? ⟨X + 1, 1, none⟩ = some (.int .i64 l) ∧ w4.cell? ⟨X + 1 + 1, 0, none⟩ = some (.int .i64 c) ∧ w4.cell? ⟨X + 1 + 1, 1, none⟩ = some (.int .i64 m)) := s3_kept HS.out k1
        clear k1
        obtain ⟨-, x0, x1, y0, y1, u0, u1⟩ := HS.out
        go_wp2_with fail
        go_meet
        case rel => exact ⟨rfl, HS.out⟩
  case rest =>
    obtain ⟨rfl, HS⟩ := hcut
    obtain ⟨-, x0, x1, y0, y1, u0, u1⟩ := HS.out
    go_wp2_with fail
    refine (P1 _).mono ?_
    rintro e w5 ⟨rfl, k1⟩
    have HS : Hid (Kept [] w w5 ∧ w5.cell? ⟨X, 0, none⟩ = some (.int .i64 a) ∧ w5.cell? ⟨X, 1, none⟩ = some (.int .i64 k) ∧ w5.cell? ⟨X + 1, 0, none⟩ = some (.int .i64 b) ∧ w5.cell? ⟨X + 1, 1, none⟩ = some (.int .i64 l) ∧ w5.cell? ⟨X + 1 + 1, 0, none⟩ = some (.int .i64 c) ∧ w5.cell? ⟨X + 1 + 1, 1, none⟩ = some (.int .i64 m)) := s3_kept HS.out k1
    clear k1
    obtain ⟨-, x0, x1, y0, y1, u0, u1⟩ := HS.out
    go_wp2_with fail
    refine (P2 _).mono ?_
    rintro e w6 ⟨rfl, k1⟩
    have HS : Hid (Kept [] w w6 ∧ w6.cell? ⟨X, 0, none⟩ = some (.int .i64 a) ∧ w6.cell? ⟨X, 1, none⟩ = some (.int .i64 k) ∧ w6.cell? ⟨X + 1, 0, none⟩ = some (.int .i64 b) ∧ w6.cell? ⟨X + 1, 1, none⟩ = some (.int .i64 l) ∧ w6.cell? ⟨X + 1 + 1, 0, none⟩ = some (.int .i64 c) ∧ w6.cell? ⟨X + 1 + 1, 1, none⟩ = some (.int .i64 m)) := s3_kept HS.out k1
    clear k1
    obtain ⟨-, x0, x1, y0, y1, u0, u1⟩ := HS.out
    go_wp2_with fail
    refine (P3 _).mono ?_
    rintro e w7 ⟨rfl, k1⟩
    have HS : Hid (Kept [] w w7 ∧ w7.cell? ⟨X, 0, none⟩ = some (.int .i64 a) ∧ w7.cell? ⟨X, 1, none⟩ = some (.int .i64 k) ∧ w7.cell? ⟨X + 1, 0, none⟩ = some (.int .i64 b) ∧ w7.cell? ⟨X + 1, 1, none⟩ = some (.int .i64 l) ∧ w7.cell? ⟨X + 1 + 1, 0, none⟩ = some (.int .i64 c) ∧ w7.cell? ⟨X + 1 + 1, 1, none⟩ = some (.int .i64 m)) := s3_kept HS.out k1
    clear k1 x0 x1 y0 y1 u0 u1
    obtain ⟨V, Y, HV, HK, v0, v1⟩ := box2 w7 (.int .i64 n) (.int .i64 k) 23
    have HS : Hid (Kept [] w V ∧ V.cell? ⟨X, 0, none⟩ = some (.int .i64 a) ∧ V.cell? ⟨X, 1, none⟩ = some (.int .i64 k) ∧ V.cell? ⟨X + 1, 0, none⟩ = some (.int .i64 b) ∧ V.cell? ⟨X + 1, 1, none⟩ = some (.int .i64 l) ∧ V.cell? ⟨X + 1 + 1, 0, none⟩ = some (.int .i64 c) ∧ V.cell? ⟨X + 1 + 1, 1, none⟩ = some (.int .i64 m) ∧ V.cell? ⟨Y, 0, none⟩ = some (.int .i64 n) ∧ V.cell? ⟨Y, 1, none⟩ = some (.int .i64 k)) := by
      have h := s3_kept HS.out HK.out
      exact ⟨h.1, h.2.1, h.2.2.1, h.2.2.2.1, h.2.2.2.2.1, h.2.2.2.2.2.1, h.2.2.2.2.2.2, v0, v1⟩
    clear v0 v1 HK
    go_upto_region 8 with fail
    rw [HV.out.1, HV.out.2]
    clear HV
    refine wp_region_held_drew (S := fun w' => Kept [] w w' ∧ w'.cell? ⟨X, 0, none⟩ = some (.int .i64 a) ∧ w'.cell? ⟨X, 1, none⟩ = some (.int .i64 k) ∧ w'.cell? ⟨X + 1, 0, none⟩ = some (.int .i64 b) ∧ w'.cell? ⟨X + 1, 1, none⟩ = some (.int .i64 l) ∧ w'.cell? ⟨X + 1 + 1, 0, none⟩ = some (.int .i64 c) ∧ w'.cell? ⟨X + 1 + 1, 1, none⟩ = some (.int .i64 m) ∧ w'.cell? ⟨Y, 0, none⟩ = some (.int .i64 n) ∧ w'.cell? ⟨Y, 1, none⟩ = some (.int .i64 k)) (by kernel_rfl) ?_ (fun hHeld => ?_)
    · exact s4_drew HS.out
    refine wpAnyH_take (i := 0) (v := ?vu30) rfl (by kernel_rfl) (by kernel_rfl) (by kernel_rfl) (fun _ _ _ h => h) (Or.inl ⟨by rfl, ?hyu30⟩) (by assumption) ?_
    case hyu30 =>
      intro w hSw
      (try dsimp only at hSw)
      go_simp
      try with_reducible rfl
    try simp only [Act.put, List.setIfInBounds_toArray, List.set_cons_zero, List.set_cons_succ, List.getElem_toArray, List.getElem_cons_zero, List.getElem_cons_succ]
    refine wpAnyH_take (i := 1) (v := ?vu31) rfl (by kernel_rfl) (by kernel_rfl) (by kernel_rfl) (fun _ _ _ h => h) (Or.inl ⟨by rfl, ?hyu31⟩) (by assumption) ?_
    case hyu31 =>
      intro w hSw
      (try dsimp only at hSw)
      go_simp
      try with_reducible rfl
    try simp only [Act.put, List.setIfInBounds_toArray, List.set_cons_zero, List.set_cons_succ, List.getElem_toArray, List.getElem_cons_zero, List.getElem_cons_succ]
    refine wpAnyH_ready (rs := [2]) (by kernel_rfl) (by simp) ?_
    refine AllReadyH.cons rfl (fun K hK => ?_) AllReadyH.nil
    go_simp
    refine (P4 _).mono ?_
    rintro e w9 ⟨rfl, k9⟩
    have z9 := s4_kept (by assumption) k9
    go_wp2_with fail
    refine hK.out _ _ ?_ (fun hHeld => ?_)
    · exact z9
    clear hK K
    try simp only [Act.put, List.setIfInBounds_toArray, List.set_cons_zero, List.set_cons_succ, List.getElem_toArray, List.getElem_cons_zero, List.getElem_cons_succ]
    refine wpAnyH_take (i := 3) (v := ?vu33) rfl (by kernel_rfl) (by kernel_rfl) (by kernel_rfl) (fun _ _ _ h => h) (Or.inl ⟨by rfl, ?hyu33⟩) (by assumption) ?_
    case hyu33 =>
      intro w hSw
      (try dsimp only at hSw)
      go_simp
      try with_reducible rfl
    try simp only [Act.put, List.setIfInBounds_toArray, List.set_cons_zero, List.set_cons_succ, List.getElem_toArray, List.getElem_cons_zero, List.getElem_cons_succ]
    refine wpAnyH_take (i := 4) (v := ?vu34) rfl (by kernel_rfl) (by kernel_rfl) (by kernel_rfl) (fun _ _ _ h => h) (Or.inl ⟨by rfl, ?hyu34⟩) (by assumption) ?_
    case hyu34 =>
      intro w hSw
      (try dsimp only at hSw)
      go_simp
      try with_reducible rfl
    try simp only [Act.put, List.setIfInBounds_toArray, List.set_cons_zero, List.set_cons_succ, List.getElem_toArray, List.getElem_cons_zero, List.getElem_cons_succ]
    refine wpAnyH_take (i := 5) (v := ?vu35) rfl (by kernel_rfl) (by kernel_rfl) (by kernel_rfl) (fun _ _ _ h => h) (Or.inl ⟨by rfl, ?hyu35⟩) (by assumption) ?_
    case hyu35 =>
      intro w hSw
      (try dsimp only at hSw)
      go_simp
      try with_reducible rfl
    try simp only [Act.put, List.setIfInBounds_toArray, List.set_cons_zero, List.set_cons_succ, List.getElem_toArray, List.getElem_cons_zero, List.getElem_cons_succ]
    refine wpAnyH_ready (rs := [6]) (by kernel_rfl) (by simp) ?_
    refine AllReadyH.cons rfl (fun K hK => ?_) AllReadyH.nil
    go_simp
    refine (P5 _).mono ?_
    rintro e w9 ⟨rfl, k9⟩
    have z9 := s4_kept (by assumption) k9
    go_wp2_with fail
    refine hK.out _ _ ?_ (fun hHeld => ?_)
    · exact z9
    clear hK K
    try simp only [Act.put, List.setIfInBounds_toArray, List.set_cons_zero, List.set_cons_succ, List.getElem_toArray, List.getElem_cons_zero, List.getElem_cons_succ]
    refine wpAnyH_take (i := 7) (v := ?vu37) rfl (by kernel_rfl) (by kernel_rfl) (by kernel_rfl) (fun _ _ _ h => h) (Or.inl ⟨by rfl, ?hyu37⟩) (by assumption) ?_
    case hyu37 =>
      intro w hSw
      (try dsimp only at hSw)
      go_simp
      try with_reducible rfl
    try simp only [Act.put, List.setIfInBounds_toArray, List.set_cons_zero, List.set_cons_succ, List.getElem_toArray, List.getElem_cons_zero, List.getElem_cons_succ]
    refine wpAnyH_take (i := 8) (v := ?vu38) rfl (by kernel_rfl) (by kernel_rfl) (by kernel_rfl) (fun _ _ _ h => h) (Or.inl ⟨by rfl, ?hyu38⟩) (by assumption) ?_
    case hyu38 =>
      intro w hSw
      (try dsimp only at hSw)
      go_simp
      try with_reducible rfl
    try simp only [Act.put, List.setIfInBounds_toArray, List.set_cons_zero, List.set_cons_succ, List.getElem_toArray, List.getElem_cons_zero, List.getElem_cons_succ]
    refine wpAnyH_take (i := 9) (v := ?vu39) rfl (by kernel_rfl) (by kernel_rfl) (by kernel_rfl) (fun _ _ _ h => h) (Or.inl ⟨by rfl, ?hyu39⟩) (by assumption) ?_
    case hyu39 =>
      intro w hSw
      (try dsimp only at hSw)
      go_simp
      try with_reducible rfl
    try simp only [Act.put, List.setIfInBounds_toArray, List.set_cons_zero, List.set_cons_succ, List.getElem_toArray, List.getElem_cons_zero, List.getElem_cons_succ]
    refine wpAnyH_take (i := 10) (v := ?vu310) rfl (by kernel_rfl) (by kernel_rfl) (by kernel_rfl) (fun _ _ _ h => h) (Or.inl ⟨by rfl, ?hyu310⟩) (by assumption) ?_
    case hyu310 =>
      intro w hSw
      (try dsimp only at hSw)
      go_simp
      try with_reducible rfl
    try simp only [Act.put, List.setIfInBounds_toArray, List.set_cons_zero, List.set_cons_succ, List.getElem_toArray, List.getElem_cons_zero, List.getElem_cons_succ]
    refine wpAnyH_take (i := 11) (v := ?vu311) rfl (by kernel_rfl) (by kernel_rfl) (by kernel_rfl) (fun _ _ _ h => h) (Or.inl ⟨by rfl, ?hyu311⟩) (by assumption) ?_
    case hyu311 =>
      intro w hSw
      (try dsimp only at hSw)
      go_simp
      try with_reducible rfl
    try simp only [Act.put, List.setIfInBounds_toArray, List.set_cons_zero, List.set_cons_succ, List.getElem_toArray, List.getElem_cons_zero, List.getElem_cons_succ]
    refine wpAnyH_take (i := 12) (v := ?vu312) rfl (by kernel_rfl) (by kernel_rfl) (by kernel_rfl) (fun _ _ _ h => h) (Or.inl ⟨by rfl, ?hyu312⟩) (by assumption) ?_
    case hyu312 =>
      intro w hSw
      (try dsimp only at hSw)
      go_simp
      try with_reducible rfl
    try simp only [Act.put, List.setIfInBounds_toArray, List.set_cons_zero, List.set_cons_succ, List.getElem_toArray, List.getElem_cons_zero, List.getElem_cons_succ]
    refine wpAnyH_take (i := 13) (v := ?vu313) rfl (by kernel_rfl) (by kernel_rfl) (by kernel_rfl) (fun _ _ _ h => h) (Or.inl ⟨by rfl, ?hyu313⟩) (by assumption) ?_
    case hyu313 =>
      intro w hSw
      (try dsimp only at hSw)
      go_simp
      try with_reducible rfl
    try simp only [Act.put, List.setIfInBounds_toArray, List.set_cons_zero, List.set_cons_succ, List.getElem_toArray, List.getElem_cons_zero, List.getElem_cons_succ]
    refine wpAnyH_take (i := 14) (v := ?vu314) rfl (by kernel_rfl) (by kernel_rfl) (by kernel_rfl) (fun _ _ _ h => h) (Or.inl ⟨by rfl, ?hyu314⟩) (by assumption) ?_
    case hyu314 =>
      intro w hSw
      (try dsimp only at hSw)
      go_simp
      try with_reducible rfl
    try simp only [Act.put, List.setIfInBounds_toArray, List.set_cons_zero, List.set_cons_succ, List.getElem_toArray, List.getElem_cons_zero, List.getElem_cons_succ]
    refine wpAnyH_take (i := 15) (v := ?vu315) rfl (by kernel_rfl) (by kernel_rfl) (by kernel_rfl) (fun _ _ _ h => h) (Or.inl ⟨by rfl, ?hyu315⟩) (by assumption) ?_
    case hyu315 =>
      intro w hSw
      (try dsimp only at hSw)
      go_simp
      try with_reducible rfl
    try simp only [Act.put, List.setIfInBounds_toArray, List.set_cons_zero, List.set_cons_succ, List.getElem_toArray, List.getElem_cons_zero, List.getElem_cons_succ]
    refine wpAnyH_take (i := 16) (v := ?vu316) rfl (by kernel_rfl) (by kernel_rfl) (by kernel_rfl) (fun _ _ _ h => h) (Or.inl ⟨by rfl, ?hyu316⟩) (by assumption) ?_
    case hyu316 =>
      intro w hSw
      (try dsimp only at hSw)
      go_simp
      try with_reducible rfl
    try simp only [Act.put, List.setIfInBounds_toArray, List.set_cons_zero, List.set_cons_succ, List.getElem_toArray, List.getElem_cons_zero, List.getElem_cons_succ]
    refine wpAnyH_take (i := 17) (v := ?vu317) rfl (by kernel_rfl) (by kernel_rfl) (by kernel_rfl) (fun _ _ _ h => h) (Or.inl ⟨by rfl, ?hyu317⟩) (by assumption) ?_
    case hyu317 =>
      intro w hSw
      (try dsimp only at hSw)
      go_simp
      try with_reducible rfl
    try simp only [Act.put, List.setIfInBounds_toArray, List.set_cons_zero, List.set_cons_succ, List.getElem_toArray, List.getElem_cons_zero, List.getElem_cons_succ]
    refine wpAnyH_take (i := 19) (v := ?vu319) rfl (by kernel_rfl) (by kernel_rfl) (by kernel_rfl) (fun _ _ _ h => h) (Or.inl ⟨by rfl, ?hyu319⟩) (by assumption) ?_
    case hyu319 =>
      intro w hSw
      (try dsimp only at hSw)
      go_simp
      try with_reducible rfl
    try simp only [Act.put, List.setIfInBounds_toArray, List.set_cons_zero, List.set_cons_succ, List.getElem_toArray, List.getElem_cons_zero, List.getElem_cons_succ]
    refine wpAnyH_take (i := 20) (v := ?vu320) rfl (by kernel_rfl) (by kernel_rfl) (by kernel_rfl) (fun _ _ _ h => h) (Or.inl ⟨by rfl, ?hyu320⟩) (by assumption) ?_
    case hyu320 =>
      intro w hSw
      (try dsimp only at hSw)
      go_simp
      try with_reducible rfl
    try simp only [Act.put, List.setIfInBounds_toArray, List.set_cons_zero, List.set_cons_succ, List.getElem_toArray, List.getElem_cons_zero, List.getElem_cons_succ]
    refine wpAnyH_take (i := 23) (v := ?vu323) rfl (by kernel_rfl) (by kernel_rfl) (by kernel_rfl) (fun _ _ _ h => h) (Or.inl ⟨by rfl, ?hyu323⟩) (by assumption) ?_
    case hyu323 =>
      intro w hSw
      (try dsimp only at hSw)
      go_simp
      try with_reducible rfl
    try simp only [Act.put, List.setIfInBounds_toArray, List.set_cons_zero, List.set_cons_succ, List.getElem_toArray, List.getElem_cons_zero, List.getElem_cons_succ]
    refine wpAnyH_take (i := 24) (v := ?vu324) rfl (by kernel_rfl) (by kernel_rfl) (by kernel_rfl) (fun _ _ _ h => h) (Or.inl ⟨by rfl, ?hyu324⟩) (by assumption) ?_
    case hyu324 =>
      intro w hSw
      (try dsimp only at hSw)
      go_simp
      try with_reducible rfl
    try simp only [Act.put, List.setIfInBounds_toArray, List.set_cons_zero, List.set_cons_succ, List.getElem_toArray, List.getElem_cons_zero, List.getElem_cons_succ]
    refine wpAnyH_take (i := 25) (v := ?vu325) rfl (by kernel_rfl) (by kernel_rfl) (by kernel_rfl) (fun _ _ _ h => h) (Or.inl ⟨by rfl, ?hyu325⟩) (by assumption) ?_
    case hyu325 =>
      intro w hSw
      (try dsimp only at hSw)
      go_simp
      try with_reducible rfl
    try simp only [Act.put, List.setIfInBounds_toArray, List.set_cons_zero, List.set_cons_succ, List.getElem_toArray, List.getElem_cons_zero, List.getElem_cons_succ]
    refine wpAnyH_ready (rs := [18]) (by kernel_rfl) (by simp) ?_
    refine AllReadyH.cons rfl (fun K hK => ?_) AllReadyH.nil
    go_simp
    refine (P6 _).mono ?_
    rintro e w9 ⟨rfl, k9⟩
    have z9 := s4_kept (by assumption) k9
    go_wp2_with fail
    refine hK.out _ _ ?_ (fun hHeld => ?_)
    · exact z9
    clear hK K
    try simp only [Act.put, List.setIfInBounds_toArray, List.set_cons_zero, List.set_cons_succ, List.getElem_toArray, List.getElem_cons_zero, List.getElem_cons_succ]
    refine wpAnyH_ready (rs := [21]) (by kernel_rfl) (by simp) ?_
    refine AllReadyH.cons rfl (fun K hK => ?_) AllReadyH.nil
    go_simp
    refine (P7 _).mono ?_
    rintro e w9 ⟨rfl, k9⟩
    have z9 := s4_kept (by assumption) k9
    go_wp2_with fail
    refine hK.out _ _ ?_ (fun hHeld => ?_)
    · exact z9
    clear hK K
    try simp only [Act.put, List.setIfInBounds_toArray, List.set_cons_zero, List.set_cons_succ, List.getElem_toArray, List.getElem_cons_zero, List.getElem_cons_succ]
    refine wpAnyH_take (i := 22) (v := ?vu322) rfl (by kernel_rfl) (by kernel_rfl) (by kernel_rfl) (fun _ _ _ h => h) (Or.inl ⟨by rfl, ?hyu322⟩) (by assumption) ?_
    case hyu322 =>
      intro w hSw
      (try dsimp only at hSw)
      go_simp
      try with_reducible rfl
    try simp only [Act.put, List.setIfInBounds_toArray, List.set_cons_zero, List.set_cons_succ, List.getElem_toArray, List.getElem_cons_zero, List.getElem_cons_succ]
    refine wpAnyH_take (i := 26) (v := ?vu326) rfl (by kernel_rfl) (by kernel_rfl) (by kernel_rfl) (fun _ _ _ h => h) (Or.inl ⟨by rfl, ?hyu326⟩) (by assumption) ?_
    case hyu326 =>
      intro w hSw
      (try dsimp only at hSw)
      go_simp
      try with_reducible rfl
    try simp only [Act.put, List.setIfInBounds_toArray, List.set_cons_zero, List.set_cons_succ, List.getElem_toArray, List.getElem_cons_zero, List.getElem_cons_succ]
    refine wpAnyH_take (i := 27) (v := ?vu327) rfl (by kernel_rfl) (by kernel_rfl) (by kernel_rfl) (fun _ _ _ h => h) (Or.inl ⟨by rfl, ?hyu327⟩) (by assumption) ?_
    case hyu327 =>
      intro w hSw
      (try dsimp only at hSw)
      go_simp
      try with_reducible rfl
    try simp only [Act.put, List.setIfInBounds_toArray, List.set_cons_zero, List.set_cons_succ, List.getElem_toArray, List.getElem_cons_zero, List.getElem_cons_succ]
    refine wpAnyH_take (i := 28) (v := ?vu328) rfl (by kernel_rfl) (by kernel_rfl) (by kernel_rfl) (fun _ _ _ h => h) (Or.inl ⟨by rfl, ?hyu328⟩) (by assumption) ?_
    case hyu328 =>
      intro w hSw
      (try dsimp only at hSw)
      go_simp
      try with_reducible rfl
    try simp only [Act.put, List.setIfInBounds_toArray, List.set_cons_zero, List.set_cons_succ, List.getElem_toArray, List.getElem_cons_zero, List.getElem_cons_succ]
    refine wpAnyH_done (by kernel_rfl) ?_ _
    have HZ : Hid (_) := hHeld.1
    clear hHeld
    go_wp2_with fail
    go_ret
    exact ⟨rfl, HZ.out.below (Nat.le_refl _) (by simp)⟩

set_option maxRecDepth 100000 in
set_option maxHeartbeats 8000000 in
theorem walk4 (a k b l c m : Int) (w : World) (h1 : mayS a k = true) (h2 : mayS b l = true) (h3 : lessS a k b l = false) (h4 : lessS b l a k = true) (h5 : (!(a == b && k == l)) = true) :
    Calls Try.prog 4 #[.agg #[.int .i64 a, .int .i64 k], .agg #[.int .i64 b, .int .i64 l], .agg #[.int .i64 c, .int .i64 m]] w fun e w' => e = .returned (.bool true) ∧ Below w.heap.size w w' := by
  obtain ⟨h6, h7⟩ := next_up h1 h2
  have P1 := p_may a k
  have P2 := p_may b l
  have P3 := p_next a k b l
  rw [h1] at P1
  rw [h2] at P2
  obtain ⟨n, hn⟩ : ∃ n, n = nextS a k b l := ⟨_, rfl⟩
  rw [← hn] at P3 h6 h7
  have P4 := p_less a k n k
  have P5 := p_less b l n k
  have P6 := p_less a k b l
  have P7 := p_less b l a k
  rw [h6] at P4
  rw [h7] at P5
  rw [h3] at P6
  rw [h4] at P7
  have E : ∀ w, (binOp .neq 23 (.agg #[.int .i64 a, .int .i64 k]) (.agg #[.int .i64 b, .int .i64 l])).run Try.prog w = .ok (.bool true) w := by
    intro w; rw [neq_st, h5]
  have hkk : (k == k) = true := by simp
  clear h1 h2 h3 h4 h5 h6 h7 hn
  obtain ⟨U, X, HU, HS⟩ := boxes3 w a k b l c m
  go_enter Try.func4, Try.ntmps4
  go_upto_region 1 with fail
  rw [HU.out.1, HU.out.2]
  clear HU
  go_wp2_with fail
  refine (awake_any _).mono ?_
  rintro e w1 ⟨rfl, k1⟩
  have HS : Hid (Kept [] w w1 ∧ w1.cell? ⟨X, 0, none⟩ = some (.int .i64 a) ∧ w1.cell? ⟨X, 1, none⟩ = some (.int .i64 k) ∧ w1.cell? ⟨X + 1, 0, none⟩ = some (.int .i64 b) ∧ w1.cell? ⟨X + 1, 1, none⟩ = some (.int .i64 l) ∧ w1.cell? ⟨X + 1 + 1, 0, none⟩ = some (.int .i64 c) ∧ w1.cell? ⟨X + 1 + 1, 1, none⟩ = some (.int .i64 m)) := s3_kept HS.out k1
  clear k1
  obtain ⟨-, x0, x1, y0, y1, u0, u1⟩ := HS.out
  go_upto_region 3 with fail
  go_cut [23] from 10 to 24 (fun v wx => v = .bool false ∧ Hid (Kept [] w wx ∧ wx.cell? ⟨X, 0, none⟩ = some (.int .i64 a) ∧ wx.cell? ⟨X, 1, none⟩ = some (.int .i64 k) ∧ wx.cell? ⟨X + 1, 0, none⟩ = some (.int .i64 b) ∧ wx.cell? ⟨X + 1, 1, none⟩ = some (.int .i64 l) ∧ wx.cell? ⟨X + 1 + 1, 0, none⟩ = some (.int .i64 c) ∧ wx.cell? ⟨X + 1 + 1, 1, none⟩ = some (.int .i64 m)))
  case first =>
    rcases h1 : lessS a k b l with _ | _
    · have P1 := p_less a k b l
      rw [h1] at P1
      clear h1
      go_wp2_with fail
      refine (P1 _).mono ?_
      rintro e w2 ⟨rfl, k1⟩
      have HS : Hid (Kept [] w w2 ∧ w2.cell? ⟨X, 0, none⟩ = some (.int .i64 a) ∧ w2.cell? ⟨X, 1, none⟩ = some (.int .i64 k) ∧ w2.cell? ⟨X + 1, 0, none⟩ = some (.int .i64 b) ∧ w2.cell? ⟨X + 1, 1, none⟩ = some (.int .i64 l) ∧ w2.cell? ⟨X + 1 + 1, 0, none⟩ = some (.int .i64 c) ∧ w2.cell? ⟨X + 1 + 1, 1, none⟩ = some (.int .i64 m)) := s3_kept HS.out k1
      clear k1
      obtain ⟨-, x0, x1, y0, y1, u0, u1⟩ := HS.out
      go_wp2_with fail
      go_meet
      case rel => exact ⟨rfl, HS.out⟩
    · rcases h2 : lessS b l c m with _ | _
      · have P1 := p_less a k b l
        have P2 := p_less b l c m
        rw [h1] at P1
        rw [h2] at P2
        clear h1 h2
        go_wp2_with fail
        refine (P1 _).mono ?_
        rintro e w2 ⟨rfl, k1⟩
        have HS : Hid (Kept [] w w2 ∧ w2.cell? ⟨X, 0, none⟩ = some (.int .i64 a) ∧ w2.cell? ⟨X, 1, none⟩ = some (.int .i64 k) ∧ w2.cell? ⟨X + 1, 0, none⟩ = some (.int .i64 b) ∧ w2.cell? ⟨X + 1, 1, none⟩ = some (.int .i64 l) ∧ w2.cell? ⟨X + 1 + 1, 0, none⟩ = some (.int .i64 c) ∧ w2.cell? ⟨X + 1 + 1, 1, none⟩ = some (.int .i64 m)) := s3_kept HS.out k1
        clear k1
        obtain ⟨-, x0, x1, y0, y1, u0, u1⟩ := HS.out
        go_wp2_with fail
        refine (P2 _).mono ?_
        rintro e w3 ⟨rfl, k1⟩
        have HS : Hid (Kept [] w w3 ∧ w3.cell? ⟨X, 0, none⟩ = some (.int .i64 a) ∧ w3.cell? ⟨X, 1, none⟩ = some (.int .i64 k) ∧ w3.cell? ⟨X + 1, 0, none⟩ = some (.int .i64 b) ∧ w3.cell? ⟨X + 1, 1, none⟩ = some (.int .i64 l) ∧ w3.cell? ⟨X + 1 + 1, 0, none⟩ = some (.int .i64 c) ∧ w3.cell? ⟨X + 1 + 1, 1, none⟩ = some (.int .i64 m)) := s3_kept HS.out k1
        clear k1
        obtain ⟨-, x0, x1, y0, y1, u0, u1⟩ := HS.out
        go_wp2_with fail
        go_meet
        case rel => exact ⟨rfl, HS.out⟩
      · have h3 := less_trans h1 h2
        have P1 := p_less a k b l
        have P2 := p_less b l c m
        have P3 := p_less a k c m
        rw [h1] at P1
        rw [h2] at P2
        rw [h3] at P3
        clear h1 h2 h3
        go_wp2_with fail
        refine (P1 _).mono ?_
        rintro e w2 ⟨rfl, k1⟩
        have HS : Hid (Kept [] w w2 ∧ w2.cell? ⟨X, 0, none⟩ = some (.int .i64 a) ∧ w2.cell? ⟨X, 1, none⟩ = some (.int .i64 k) ∧ w2.cell? ⟨X + 1, 0, none⟩ = some (.int .i64 b) ∧ w2.cell? ⟨X + 1, 1, none⟩ = some (.int .i64 l) ∧ w2.cell? ⟨X + 1 + 1, 0, none⟩ = some (.int .i64 c) ∧ w2.cell? ⟨X + 1 + 1, 1, none⟩ = some (.int .i64 m)) := s3_kept HS.out k1
        clear k1
        obtain ⟨-, x0, x1, y0, y1, u0, u1⟩ := HS.out
        go_wp2_with fail
        refine (P2 _).mono ?_
        rintro e w3 ⟨rfl, k1⟩
        have HS : Hid (Kept [] w w3 ∧ w3.cell? ⟨X, 0, none⟩ = some (.int .i64 a) ∧ w3.cell? ⟨X, 1, none⟩ = some (.int .i64 k) ∧ w3.cell? ⟨X + 1, 0, none⟩ = some (.int .i64 b) ∧ w3.cell? ⟨X + 1, 1, none⟩ = some (.int .i64 l) ∧ w3.cell? ⟨X + 1 + 1, 0, none⟩ = some (.int .i64 c) ∧ w3.cell? ⟨X + 1 + 1, 1, none⟩ = some (.int .i64 m)) := s3_kept HS.out k1
        clear k1
        obtain ⟨-, x0, x1, y0, y1, u0, u1⟩ := HS.out
        go_wp2_with fail
        refine (P3 _).mono ?_
        rintro e w4 ⟨rfl, k1⟩
        have HS : Hid (Kept [] w w4 ∧ w4.cell? ⟨X, 0, none⟩ = some (.int .i64 a) ∧ w4.cell? ⟨X, 1, none⟩ = some (.int .i64 k) ∧ w4.cell? ⟨X + 1, 0, none⟩ = some (.int .i64 b) ∧ w4.cell? ⟨X + 1, 1, none⟩ = some (.int .i64 l) ∧ w4.cell? ⟨X + 1 + 1, 0, none⟩ = some (.int .i64 c) ∧ w4.cell? ⟨X + 1 + 1, 1, none⟩ = some (.int .i64 m)) := s3_kept HS.out k1
        clear k1
        obtain ⟨-, x0, x1, y0, y1, u0, u1⟩ := HS.out
        go_wp2_with fail
        go_meet
        case rel => exact ⟨rfl, HS.out⟩
  case rest =>
    obtain ⟨rfl, HS⟩ := hcut
    obtain ⟨-, x0, x1, y0, y1, u0, u1⟩ := HS.out
    go_wp2_with fail
    refine (P1 _).mono ?_
    rintro e w5 ⟨rfl, k1⟩
    have HS : Hid (Kept [] w w5 ∧ w5.cell? ⟨X, 0, none⟩ = some (.int .i64 a) ∧ w5.cell? ⟨X, 1, none⟩ = some (.int .i64 k) ∧ w5.cell? ⟨X + 1, 0, none⟩ = some (.int .i64 b) ∧ w5.cell? ⟨X + 1, 1, none⟩ = some (.int .i64 l) ∧ w5.cell? ⟨X + 1 + 1, 0, none⟩ = some (.int .i64 c) ∧ w5.cell? ⟨X + 1 + 1, 1, none⟩ = some (.int .i64 m)) := s3_kept HS.out k1
    clear k1
    obtain ⟨-, x0, x1, y0, y1, u0, u1⟩ := HS.out
    go_wp2_with fail
    refine (P2 _).mono ?_
    rintro e w6 ⟨rfl, k1⟩
    have HS : Hid (Kept [] w w6 ∧ w6.cell? ⟨X, 0, none⟩ = some (.int .i64 a) ∧ w6.cell? ⟨X, 1, none⟩ = some (.int .i64 k) ∧ w6.cell? ⟨X + 1, 0, none⟩ = some (.int .i64 b) ∧ w6.cell? ⟨X + 1, 1, none⟩ = some (.int .i64 l) ∧ w6.cell? ⟨X + 1 + 1, 0, none⟩ = some (.int .i64 c) ∧ w6.cell? ⟨X + 1 + 1, 1, none⟩ = some (.int .i64 m)) := s3_kept HS.out k1
    clear k1
    obtain ⟨-, x0, x1, y0, y1, u0, u1⟩ := HS.out
    go_wp2_with fail
    refine (P3 _).mono ?_
    rintro e w7 ⟨rfl, k1⟩
    have HS : Hid (Kept [] w w7 ∧ w7.cell? ⟨X, 0, none⟩ = some (.int .i64 a) ∧ w7.cell? ⟨X, 1, none⟩ = some (.int .i64 k) ∧ w7.cell? ⟨X + 1, 0, none⟩ = some (.int .i64 b) ∧ w7.cell? ⟨X + 1, 1, none⟩ = some (.int .i64 l) ∧ w7.cell? ⟨X + 1 + 1, 0, none⟩ = some (.int .i64 c) ∧ w7.cell? ⟨X + 1 + 1, 1, none⟩ = some (.int .i64 m)) := s3_kept HS.out k1
    clear k1 x0 x1 y0 y1 u0 u1
    obtain ⟨V, Y, HV, HK, v0, v1⟩ := box2 w7 (.int .i64 n) (.int .i64 k) 23
    have HS : Hid (Kept [] w V ∧ V.cell? ⟨X, 0, none⟩ = some (.int .i64 a) ∧ V.cell? ⟨X, 1, none⟩ = some (.int .i64 k) ∧ V.cell? ⟨X + 1, 0, none⟩ = some (.int .i64 b) ∧ V.cell? ⟨X + 1, 1, none⟩ = some (.int .i64 l) ∧ V.cell? ⟨X + 1 + 1, 0, none⟩ = some (.int .i64 c) ∧ V.cell? ⟨X + 1 + 1, 1, none⟩ = some (.int .i64 m) ∧ V.cell? ⟨Y, 0, none⟩ = some (.int .i64 n) ∧ V.cell? ⟨Y, 1, none⟩ = some (.int .i64 k)) := by
      have h := s3_kept HS.out HK.out
      exact ⟨h.1, h.2.1, h.2.2.1, h.2.2.2.1, h.2.2.2.2.1, h.2.2.2.2.2.1, h.2.2.2.2.2.2, v0, v1⟩
    clear v0 v1 HK
    go_upto_region 8 with fail
    rw [HV.out.1, HV.out.2]
    clear HV
    refine wp_region_held_drew (S := fun w' => Kept [] w w' ∧ w'.cell? ⟨X, 0, none⟩ = some (.int .i64 a) ∧ w'.cell? ⟨X, 1, none⟩ = some (.int .i64 k) ∧ w'.cell? ⟨X + 1, 0, none⟩ = some (.int .i64 b) ∧ w'.cell? ⟨X + 1, 1, none⟩ = some (.int .i64 l) ∧ w'.cell? ⟨X + 1 + 1, 0, none⟩ = some (.int .i64 c) ∧ w'.cell? ⟨X + 1 + 1, 1, none⟩ = some (.int .i64 m) ∧ w'.cell? ⟨Y, 0, none⟩ = some (.int .i64 n) ∧ w'.cell? ⟨Y, 1, none⟩ = some (.int .i64 k)) (by kernel_rfl) ?_ (fun hHeld => ?_)
    · exact s4_drew HS.out
    refine wpAnyH_take (i := 0) (v := ?vu40) rfl (by kernel_rfl) (by kernel_rfl) (by kernel_rfl) (fun _ _ _ h => h) (Or.inl ⟨by rfl, ?hyu40⟩) (by assumption) ?_
    case hyu40 =>
      intro w hSw
      (try dsimp only at hSw)
      go_simp
      try with_reducible rfl
    try simp only [Act.put, List.setIfInBounds_toArray, List.set_cons_zero, List.set_cons_succ, List.getElem_toArray, List.getElem_cons_zero, List.getElem_cons_succ]
    refine wpAnyH_take (i := 1) (v := ?vu41) rfl (by kernel_rfl) (by kernel_rfl) (by kernel_rfl) (fun _ _ _ h => h) (Or.inl ⟨by rfl, ?hyu41⟩) (by assumption) ?_
    case hyu41 =>
      intro w hSw
      (try dsimp only at hSw)
      go_simp
      try with_reducible rfl
    try simp only [Act.put, List.setIfInBounds_toArray, List.set_cons_zero, List.set_cons_succ, List.getElem_toArray, List.getElem_cons_zero, List.getElem_cons_succ]
    refine wpAnyH_ready (rs := [2]) (by kernel_rfl) (by simp) ?_
    refine AllReadyH.cons rfl (fun K hK => ?_) AllReadyH.nil
    go_simp
    refine (P4 _).mono ?_
    rintro e w9 ⟨rfl, k9⟩
    have z9 := s4_kept (by assumption) k9
    go_wp2_with fail
    refine hK.out _ _ ?_ (fun hHeld => ?_)
    · exact z9
    clear hK K
    try simp only [Act.put, List.setIfInBounds_toArray, List.set_cons_zero, List.set_cons_succ, List.getElem_toArray, List.getElem_cons_zero, List.getElem_cons_succ]
    refine wpAnyH_take (i := 3) (v := ?vu43) rfl (by kernel_rfl) (by kernel_rfl) (by kernel_rfl) (fun _ _ _ h => h) (Or.inl ⟨by rfl, ?hyu43⟩) (by assumption) ?_
    case hyu43 =>
      intro w hSw
      (try dsimp only at hSw)
      go_simp
      try with_reducible rfl
    try simp only [Act.put, List.setIfInBounds_toArray, List.set_cons_zero, List.set_cons_succ, List.getElem_toArray, List.getElem_cons_zero, List.getElem_cons_succ]
    refine wpAnyH_take (i := 4) (v := ?vu44) rfl (by kernel_rfl) (by kernel_rfl) (by kernel_rfl) (fun _ _ _ h => h) (Or.inl ⟨by rfl, ?hyu44⟩) (by assumption) ?_
    case hyu44 =>
      intro w hSw
      (try dsimp only at hSw)
      go_simp
      try with_reducible rfl
    try simp only [Act.put, List.setIfInBounds_toArray, List.set_cons_zero, List.set_cons_succ, List.getElem_toArray, List.getElem_cons_zero, List.getElem_cons_succ]
    refine wpAnyH_take (i := 5) (v := ?vu45) rfl (by kernel_rfl) (by kernel_rfl) (by kernel_rfl) (fun _ _ _ h => h) (Or.inl ⟨by rfl, ?hyu45⟩) (by assumption) ?_
    case hyu45 =>
      intro w hSw
      (try dsimp only at hSw)
      go_simp
      try with_reducible rfl
    try simp only [Act.put, List.setIfInBounds_toArray, List.set_cons_zero, List.set_cons_succ, List.getElem_toArray, List.getElem_cons_zero, List.getElem_cons_succ]
    refine wpAnyH_ready (rs := [6]) (by kernel_rfl) (by simp) ?_
    refine AllReadyH.cons rfl (fun K hK => ?_) AllReadyH.nil
    go_simp
    refine (P5 _).mono ?_
    rintro e w9 ⟨rfl, k9⟩
    have z9 := s4_kept (by assumption) k9
    go_wp2_with fail
    refine hK.out _ _ ?_ (fun hHeld => ?_)
    · exact z9
    clear hK K
    try simp only [Act.put, List.setIfInBounds_toArray, List.set_cons_zero, List.set_cons_succ, List.getElem_toArray, List.getElem_cons_zero, List.getElem_cons_succ]
    refine wpAnyH_take (i := 7) (v := ?vu47) rfl (by kernel_rfl) (by kernel_rfl) (by kernel_rfl) (fun _ _ _ h => h) (Or.inl ⟨by rfl, ?hyu47⟩) (by assumption) ?_
    case hyu47 =>
      intro w hSw
      (try dsimp only at hSw)
      go_simp
      try with_reducible rfl
    try simp only [Act.put, List.setIfInBounds_toArray, List.set_cons_zero, List.set_cons_succ, List.getElem_toArray, List.getElem_cons_zero, List.getElem_cons_succ]
    refine wpAnyH_take (i := 8) (v := ?vu48) rfl (by kernel_rfl) (by kernel_rfl) (by kernel_rfl) (fun _ _ _ h => h) (Or.inl ⟨by rfl, ?hyu48⟩) (by assumption) ?_
    case hyu48 =>
      intro w hSw
      (try dsimp only at hSw)
      go_simp
      try with_reducible rfl
    try simp only [Act.put, List.setIfInBounds_toArray, List.set_cons_zero, List.set_cons_succ, List.getElem_toArray, List.getElem_cons_zero, List.getElem_cons_succ]
    refine wpAnyH_take (i := 9) (v := ?vu49) rfl (by kernel_rfl) (by kernel_rfl) (by kernel_rfl) (fun _ _ _ h => h) (Or.inl ⟨by rfl, ?hyu49⟩) (by assumption) ?_
    case hyu49 =>
      intro w hSw
      (try dsimp only at hSw)
      go_simp
      try with_reducible rfl
    try simp only [Act.put, List.setIfInBounds_toArray, List.set_cons_zero, List.set_cons_succ, List.getElem_toArray, List.getElem_cons_zero, List.getElem_cons_succ]
    refine wpAnyH_take (i := 10) (v := ?vu410) rfl (by kernel_rfl) (by kernel_rfl) (by kernel_rfl) (fun _ _ _ h => h) (Or.inl ⟨by rfl, ?hyu410⟩) (by assumption) ?_
    case hyu410 =>
      intro w hSw
      (try dsimp only at hSw)
      go_simp
      try with_reducible rfl
    try simp only [Act.put, List.setIfInBounds_toArray, List.set_cons_zero, List.set_cons_succ, List.getElem_toArray, List.getElem_cons_zero, List.getElem_cons_succ]
    refine wpAnyH_take (i := 11) (v := ?vu411) rfl (by kernel_rfl) (by kernel_rfl) (by kernel_rfl) (fun _ _ _ h => h) (Or.inl ⟨by rfl, ?hyu411⟩) (by assumption) ?_
    case hyu411 =>
      intro w hSw
      (try dsimp only at hSw)
      go_simp
      try with_reducible rfl
    try simp only [Act.put, List.setIfInBounds_toArray, List.set_cons_zero, List.set_cons_succ, List.getElem_toArray, List.getElem_cons_zero, List.getElem_cons_succ]
    refine wpAnyH_take (i := 12) (v := ?vu412) rfl (by kernel_rfl) (by kernel_rfl) (by kernel_rfl) (fun _ _ _ h => h) (Or.inl ⟨by rfl, ?hyu412⟩) (by assumption) ?_
    case hyu412 =>
      intro w hSw
      (try dsimp only at hSw)
      go_simp
      try with_reducible rfl
    try simp only [Act.put, List.setIfInBounds_toArray, List.set_cons_zero, List.set_cons_succ, List.getElem_toArray, List.getElem_cons_zero, List.getElem_cons_succ]
    refine wpAnyH_take (i := 13) (v := ?vu413) rfl (by kernel_rfl) (by kernel_rfl) (by kernel_rfl) (fun _ _ _ h => h) (Or.inl ⟨by rfl, ?hyu413⟩) (by assumption) ?_
    case hyu413 =>
      intro w hSw
      (try dsimp only at hSw)
      go_simp
      try with_reducible rfl
    try simp only [Act.put, List.setIfInBounds_toArray, List.set_cons_zero, List.set_cons_succ, List.getElem_toArray, List.getElem_cons_zero, List.getElem_cons_succ]
    refine wpAnyH_take (i := 14) (v := ?vu414) rfl (by kernel_rfl) (by kernel_rfl) (by kernel_rfl) (fun _ _ _ h => h) (Or.inl ⟨by rfl, ?hyu414⟩) (by assumption) ?_
    case hyu414 =>
      intro w hSw
      (try dsimp only at hSw)
      go_simp
      try with_reducible rfl
    try simp only [Act.put, List.setIfInBounds_toArray, List.set_cons_zero, List.set_cons_succ, List.getElem_toArray, List.getElem_cons_zero, List.getElem_cons_succ]
    refine wpAnyH_take (i := 15) (v := ?vu415) rfl (by kernel_rfl) (by kernel_rfl) (by kernel_rfl) (fun _ _ _ h => h) (Or.inl ⟨by rfl, ?hyu415⟩) (by assumption) ?_
    case hyu415 =>
      intro w hSw
      (try dsimp only at hSw)
      go_simp
      try with_reducible rfl
    try simp only [Act.put, List.setIfInBounds_toArray, List.set_cons_zero, List.set_cons_succ, List.getElem_toArray, List.getElem_cons_zero, List.getElem_cons_succ]
    refine wpAnyH_take (i := 16) (v := ?vu416) rfl (by kernel_rfl) (by kernel_rfl) (by kernel_rfl) (fun _ _ _ h => h) (Or.inl ⟨by rfl, ?hyu416⟩) (by assumption) ?_
    case hyu416 =>
      intro w hSw
      (try dsimp only at hSw)
      go_simp
      try with_reducible rfl
    try simp only [Act.put, List.setIfInBounds_toArray, List.set_cons_zero, List.set_cons_succ, List.getElem_toArray, List.getElem_cons_zero, List.getElem_cons_succ]
    refine wpAnyH_take (i := 17) (v := ?vu417) rfl (by kernel_rfl) (by kernel_rfl) (by kernel_rfl) (fun _ _ _ h => h) (Or.inl ⟨by rfl, ?hyu417⟩) (by assumption) ?_
    case hyu417 =>
      intro w hSw
      (try dsimp only at hSw)
      go_simp
      try with_reducible rfl
    try simp only [Act.put, List.setIfInBounds_toArray, List.set_cons_zero, List.set_cons_succ, List.getElem_toArray, List.getElem_cons_zero, List.getElem_cons_succ]
    refine wpAnyH_take (i := 19) (v := ?vu419) rfl (by kernel_rfl) (by kernel_rfl) (by kernel_rfl) (fun _ _ _ h => h) (Or.inl ⟨by rfl, ?hyu419⟩) (by assumption) ?_
    case hyu419 =>
      intro w hSw
      (try dsimp only at hSw)
      go_simp
      try with_reducible rfl
    try simp only [Act.put, List.setIfInBounds_toArray, List.set_cons_zero, List.set_cons_succ, List.getElem_toArray, List.getElem_cons_zero, List.getElem_cons_succ]
    refine wpAnyH_take (i := 20) (v := ?vu420) rfl (by kernel_rfl) (by kernel_rfl) (by kernel_rfl) (fun _ _ _ h => h) (Or.inl ⟨by rfl, ?hyu420⟩) (by assumption) ?_
    case hyu420 =>
      intro w hSw
      (try dsimp only at hSw)
      go_simp
      try with_reducible rfl
    try simp only [Act.put, List.setIfInBounds_toArray, List.set_cons_zero, List.set_cons_succ, List.getElem_toArray, List.getElem_cons_zero, List.getElem_cons_succ]
    refine wpAnyH_take (i := 23) (v := ?vu423) rfl (by kernel_rfl) (by kernel_rfl) (by kernel_rfl) (fun _ _ _ h => h) (Or.inl ⟨by rfl, ?hyu423⟩) (by assumption) ?_
    case hyu423 =>
      intro w hSw
      (try dsimp only at hSw)
      go_simp
      try with_reducible rfl
    try simp only [Act.put, List.setIfInBounds_toArray, List.set_cons_zero, List.set_cons_succ, List.getElem_toArray, List.getElem_cons_zero, List.getElem_cons_succ]
    refine wpAnyH_take (i := 24) (v := ?vu424) rfl (by kernel_rfl) (by kernel_rfl) (by kernel_rfl) (fun _ _ _ h => h) (Or.inl ⟨by rfl, ?hyu424⟩) (by assumption) ?_
    case hyu424 =>
      intro w hSw
      (try dsimp only at hSw)
      go_simp
      try with_reducible rfl
    try simp only [Act.put, List.setIfInBounds_toArray, List.set_cons_zero, List.set_cons_succ, List.getElem_toArray, List.getElem_cons_zero, List.getElem_cons_succ]
    refine wpAnyH_take (i := 25) (v := ?vu425) rfl (by kernel_rfl) (by kernel_rfl) (by kernel_rfl) (fun _ _ _ h => h) (Or.inl ⟨by rfl, ?hyu425⟩) (by assumption) ?_
    case hyu425 =>
      intro w hSw
      (try dsimp only at hSw)
      go_simp
      try with_reducible rfl
    try simp only [Act.put, List.setIfInBounds_toArray, List.set_cons_zero, List.set_cons_succ, List.getElem_toArray, List.getElem_cons_zero, List.getElem_cons_succ]
    refine wpAnyH_ready (rs := [18]) (by kernel_rfl) (by simp) ?_
    refine AllReadyH.cons rfl (fun K hK => ?_) AllReadyH.nil
    go_simp
    refine (P6 _).mono ?_
    rintro e w9 ⟨rfl, k9⟩
    have z9 := s4_kept (by assumption) k9
    go_wp2_with fail
    refine hK.out _ _ ?_ (fun hHeld => ?_)
    · exact z9
    clear hK K
    try simp only [Act.put, List.setIfInBounds_toArray, List.set_cons_zero, List.set_cons_succ, List.getElem_toArray, List.getElem_cons_zero, List.getElem_cons_succ]
    refine wpAnyH_ready (rs := [21]) (by kernel_rfl) (by simp) ?_
    refine AllReadyH.cons rfl (fun K hK => ?_) AllReadyH.nil
    go_simp
    refine (P7 _).mono ?_
    rintro e w9 ⟨rfl, k9⟩
    have z9 := s4_kept (by assumption) k9
    go_wp2_with fail
    refine hK.out _ _ ?_ (fun hHeld => ?_)
    · exact z9
    clear hK K
    try simp only [Act.put, List.setIfInBounds_toArray, List.set_cons_zero, List.set_cons_succ, List.getElem_toArray, List.getElem_cons_zero, List.getElem_cons_succ]
    refine wpAnyH_take (i := 22) (v := ?vu422) rfl (by kernel_rfl) (by kernel_rfl) (by kernel_rfl) (fun _ _ _ h => h) (Or.inl ⟨by rfl, ?hyu422⟩) (by assumption) ?_
    case hyu422 =>
      intro w hSw
      (try dsimp only at hSw)
      go_simp
      try with_reducible rfl
    try simp only [Act.put, List.setIfInBounds_toArray, List.set_cons_zero, List.set_cons_succ, List.getElem_toArray, List.getElem_cons_zero, List.getElem_cons_succ]
    refine wpAnyH_take (i := 26) (v := ?vu426) rfl (by kernel_rfl) (by kernel_rfl) (by kernel_rfl) (fun _ _ _ h => h) (Or.inl ⟨by rfl, ?hyu426⟩) (by assumption) ?_
    case hyu426 =>
      intro w hSw
      (try dsimp only at hSw)
      go_simp
      try with_reducible rfl
    try simp only [Act.put, List.setIfInBounds_toArray, List.set_cons_zero, List.set_cons_succ, List.getElem_toArray, List.getElem_cons_zero, List.getElem_cons_succ]
    refine wpAnyH_take (i := 27) (v := ?vu427) rfl (by kernel_rfl) (by kernel_rfl) (by kernel_rfl) (fun _ _ _ h => h) (Or.inl ⟨by rfl, ?hyu427⟩) (by assumption) ?_
    case hyu427 =>
      intro w hSw
      (try dsimp only at hSw)
      go_simp
      try with_reducible rfl
    try simp only [Act.put, List.setIfInBounds_toArray, List.set_cons_zero, List.set_cons_succ, List.getElem_toArray, List.getElem_cons_zero, List.getElem_cons_succ]
    refine wpAnyH_take (i := 28) (v := ?vu428) rfl (by kernel_rfl) (by kernel_rfl) (by kernel_rfl) (fun _ _ _ h => h) (Or.inl ⟨by rfl, ?hyu428⟩) (by assumption) ?_
    case hyu428 =>
      intro w hSw
      (try dsimp only at hSw)
      go_simp
      try with_reducible rfl
    try simp only [Act.put, List.setIfInBounds_toArray, List.set_cons_zero, List.set_cons_succ, List.getElem_toArray, List.getElem_cons_zero, List.getElem_cons_succ]
    refine wpAnyH_done (by kernel_rfl) ?_ _
    have HZ : Hid (_) := hHeld.1
    clear hHeld
    go_wp2_with fail
    go_ret
    exact ⟨rfl, HZ.out.below (Nat.le_refl _) (by simp)⟩

set_option maxRecDepth 100000 in
set_option maxHeartbeats 8000000 in
theorem walk5 (a k b l c m : Int) (w : World) (h1 : mayS a k = true) (h2 : mayS b l = true) (h3 : lessS a k b l = false) (h4 : lessS b l a k = false) (h5 : (!(a == b && k == l)) = false) :
    Calls Try.prog 4 #[.agg #[.int .i64 a, .int .i64 k], .agg #[.int .i64 b, .int .i64 l], .agg #[.int .i64 c, .int .i64 m]] w fun e w' => e = .returned (.bool true) ∧ Below w.heap.size w w' := by
  obtain ⟨h6, h7⟩ := next_up h1 h2
  have P1 := p_may a k
  have P2 := p_may b l
  have P3 := p_next a k b l
  rw [h1] at P1
  rw [h2] at P2
  obtain ⟨n, hn⟩ : ∃ n, n = nextS a k b l := ⟨_, rfl⟩
  rw [← hn] at P3 h6 h7
  have P4 := p_less a k n k
  have P5 := p_less b l n k
  have P6 := p_less a k b l
  have P7 := p_less b l a k
  rw [h6] at P4
  rw [h7] at P5
  rw [h3] at P6
  rw [h4] at P7
  have E : ∀ w, (binOp .neq 23 (.agg #[.int .i64 a, .int .i64 k]) (.agg #[.int .i64 b, .int .i64 l])).run Try.prog w = .ok (.bool false) w := by
    intro w; rw [neq_st, h5]
  have hkk : (k == k) = true := by simp
  clear h1 h2 h3 h4 h5 h6 h7 hn
  obtain ⟨U, X, HU, HS⟩ := boxes3 w a k b l c m
  go_enter Try.func4, Try.ntmps4
  go_upto_region 1 with fail
  rw [HU.out.1, HU.out.2]
  clear HU
  go_wp2_with fail
  refine (awake_any _).mono ?_
  rintro e w1 ⟨rfl, k1⟩
  have HS : Hid (Kept [] w w1 ∧ w1.cell? ⟨X, 0, none⟩ = some (.int .i64 a) ∧ w1.cell? ⟨X, 1, none⟩ = some (.int .i64 k) ∧ w1.cell? ⟨X + 1, 0, none⟩ = some (.int .i64 b) ∧ w1.cell? ⟨X + 1, 1, none⟩ = some (.int .i64 l) ∧ w1.cell? ⟨X + 1 + 1, 0, none⟩ = some (.int .i64 c) ∧ w1.cell? ⟨X + 1 + 1, 1, none⟩ = some (.int .i64 m)) := s3_kept HS.out k1
  clear k1
  obtain ⟨-, x0, x1, y0, y1, u0, u1⟩ := HS.out
  go_upto_region 3 with fail
  go_cut [23] from 10 to 24 (fun v wx => v = .bool false ∧ Hid (Kept [] w wx ∧ wx.cell? ⟨X, 0, none⟩ = some (.int .i64 a) ∧ wx.cell? ⟨X, 1, none⟩ = some (.int .i64 k) ∧ wx.cell? ⟨X + 1, 0, none⟩ = some (.int .i64 b) ∧ wx.cell? ⟨X + 1, 1, none⟩ = some (.int .i64 l) ∧ wx.cell? ⟨X + 1 + 1, 0, none⟩ = some (.int .i64 c) ∧ wx.cell? ⟨X + 1 + 1, 1, none⟩ = some (.int .i64 m)))
  case first =>
    rcases h1 : lessS a k b l with _ | _
    · have P1 := p_less a k b l
      rw [h1] at P1
      clear h1
      go_wp2_with fail
      refine (P1 _).mono ?_
      rintro e w2 ⟨rfl, k1⟩
      have HS : Hid (Kept [] w w2 ∧ w2.cell? ⟨X, 0, none⟩ = some (.int .i64 a) ∧ w2.cell? ⟨X, 1, none⟩ = some (.int .i64 k) ∧ w2.cell? ⟨X + 1, 0, none⟩ = some (.int .i64 b) ∧ w2.cell? ⟨X + 1, 1, none⟩ = some (.int .i64 l) ∧ w2.cell? ⟨X + 1 + 1, 0, none⟩ = some (.int .i64 c) ∧ w2.cell? ⟨X + 1 + 1, 1, none⟩ = some (.int .i64 m)) := s3_kept HS.out k1
      clear k1
      obtain ⟨-, x0, x1, y0, y1, u0, u1⟩ := HS.out
      go_wp2_with fail
      go_meet
      case rel => exact ⟨rfl, HS.out⟩
    · rcases h2 : lessS b l c m with _ | _
      · have P1 := p_less a k b l
        have P2 := p_less b l c m
        rw [h1] at P1
        rw [h2] at P2
        clear h1 h2
        go_wp2_with fail
        refine (P1 _).mono ?_
        rintro e w2 ⟨rfl, k1⟩
        have HS : Hid (Kept [] w w2 ∧ w2.cell? ⟨X, 0, none⟩ = some (.int .i64 a) ∧ w2.cell? ⟨X, 1, none⟩ = some (.int .i64 k) ∧ w2.cell? ⟨X + 1, 0, none⟩ = some (.int .i64 b) ∧ w2.cell? ⟨X + 1, 1, none⟩ = some (.int .i64 l) ∧ w2.cell? ⟨X + 1 + 1, 0, none⟩ = some (.int .i64 c) ∧ w2.cell? ⟨X + 1 + 1, 1, none⟩ = some (.int .i64 m)) := s3_kept HS.out k1
        clear k1
        obtain ⟨-, x0, x1, y0, y1, u0, u1⟩ := HS.out
        go_wp2_with fail
        refine (P2 _).mono ?_
        rintro e w3 ⟨rfl, k1⟩
        have HS : Hid (Kept [] w w3 ∧ w3.cell? ⟨X, 0, none⟩ = some (.int .i64 a) ∧ w3.cell? ⟨X, 1, none⟩ = some (.int .i64 k) ∧ w3.cell? ⟨X + 1, 0, none⟩ = some (.int .i64 b) ∧ w3.cell? ⟨X + 1, 1, none⟩ = some (.int .i64 l) ∧ w3.cell? ⟨X + 1 + 1, 0, none⟩ = some (.int .i64 c) ∧ w3.cell? ⟨X + 1 + 1, 1, none⟩ = some (.int .i64 m)) := s3_kept HS.out k1
        clear k1
        obtain ⟨-, x0, x1, y0, y1, u0, u1⟩ := HS.out
        go_wp2_with fail
        go_meet
        case rel => exact ⟨rfl, HS.out⟩
      · have h3 := less_trans h1 h2
        have P1 := p_less a k b l
        have P2 := p_less b l c m
        have P3 := p_less a k c m
        rw [h1] at P1
        rw [h2] at P2
        rw [h3] at P3
        clear h1 h2 h3
        go_wp2_with fail
        refine (P1 _).mono ?_
        rintro e w2 ⟨rfl, k1⟩
        have HS : Hid (Kept [] w w2 ∧ w2.cell? ⟨X, 0, none⟩ = some (.int .i64 a) ∧ w2.cell? ⟨X, 1, none⟩ = some (.int .i64 k) ∧ w2.cell? ⟨X + 1, 0, none⟩ = some (.int .i64 b) ∧ w2.cell? ⟨X + 1, 1, none⟩ = some (.int .i64 l) ∧ w2.cell? ⟨X + 1 + 1, 0, none⟩ = some (.int .i64 c) ∧ w2.cell? ⟨X + 1 + 1, 1, none⟩ = some (.int .i64 m)) := s3_kept HS.out k1
        clear k1
        obtain ⟨-, x0, x1, y0, y1, u0, u1⟩ := HS.out
        go_wp2_with fail
        refine (P2 _).mono ?_
        rintro e w3 ⟨rfl, k1⟩
        have HS : Hid (Kept [] w w3 ∧ w3.cell? ⟨X, 0, none⟩ = some (.int .i64 a) ∧ w3.cell? ⟨X, 1, none⟩ = some (.int .i64 k) ∧ w3.cell? ⟨X + 1, 0, none⟩ = some (.int .i64 b) ∧ w3.cell? ⟨X + 1, 1, none⟩ = some (.int .i64 l) ∧ w3.cell? ⟨X + 1 + 1, 0, none⟩ = some (.int .i64 c) ∧ w3.cell? ⟨X + 1 + 1, 1, none⟩ = some (.int .i64 m)) := s3_kept HS.out k1
        clear k1
        obtain ⟨-, x0, x1, y0, y1, u0, u1⟩ := HS.out
        go_wp2_with fail
        refine (P3 _).mono ?_
        rintro e w4 ⟨rfl, k1⟩
        have HS : Hid (Kept [] w w4 ∧ w4.cell? ⟨X, 0, none⟩ = some (.int .i64 a) ∧ w4.cell? ⟨X, 1, none⟩ = some (.int .i64 k) ∧ w4.cell? ⟨X + 1, 0, none⟩ = some (.int .i64 b) ∧ w4.cell? ⟨X + 1, 1, none⟩ = some (.int .i64 l) ∧ w4.cell? ⟨X + 1 + 1, 0, none⟩ = some (.int .i64 c) ∧ w4.cell? ⟨X + 1 + 1, 1, none⟩ = some (.int .i64 m)) := s3_kept HS.out k1
        clear k1
        obtain ⟨-, x0, x1, y0, y1, u0, u1⟩ := HS.out
        go_wp2_with fail
        go_meet
        case rel => exact ⟨rfl, HS.out⟩
  case rest =>
    obtain ⟨rfl, HS⟩ := hcut
    obtain ⟨-, x0, x1, y0, y1, u0, u1⟩ := HS.out
    go_wp2_with fail
    refine (P1 _).mono ?_
    rintro e w5 ⟨rfl, k1⟩
    have HS : Hid (Kept [] w w5 ∧ w5.cell? ⟨X, 0, none⟩ = some (.int .i64 a) ∧ w5.cell? ⟨X, 1, none⟩ = some (.int .i64 k) ∧ w5.cell? ⟨X + 1, 0, none⟩ = some (.int .i64 b) ∧ w5.cell? ⟨X + 1, 1, none⟩ = some (.int .i64 l) ∧ w5.cell? ⟨X + 1 + 1, 0, none⟩ = some (.int .i64 c) ∧ w5.cell? ⟨X + 1 + 1, 1, none⟩ = some (.int .i64 m)) := s3_kept HS.out k1
    clear k1
    obtain ⟨-, x0, x1, y0, y1, u0, u1⟩ := HS.out
    go_wp2_with fail
    refine (P2 _).mono ?_
    rintro e w6 ⟨rfl, k1⟩
    have HS : Hid (Kept [] w w6 ∧ w6.cell? ⟨X, 0, none⟩ = some (.int .i64 a) ∧ w6.cell? ⟨X, 1, none⟩ = some (.int .i64 k) ∧ w6.cell? ⟨X + 1, 0, none⟩ = some (.int .i64 b) ∧ w6.cell? ⟨X + 1, 1, none⟩ = some (.int .i64 l) ∧ w6.cell? ⟨X + 1 + 1, 0, none⟩ = some (.int .i64 c) ∧ w6.cell? ⟨X + 1 + 1, 1, none⟩ = some (.int .i64 m)) := s3_kept HS.out k1
    clear k1
    obtain ⟨-, x0, x1, y0, y1, u0, u1⟩ := HS.out
    go_wp2_with fail
    refine (P3 _).mono ?_
    rintro e w7 ⟨rfl, k1⟩
    have HS : Hid (Kept [] w w7 ∧ w7.cell? ⟨X, 0, none⟩ = some (.int .i64 a) ∧ w7.cell? ⟨X, 1, none⟩ = some (.int .i64 k) ∧ w7.cell? ⟨X + 1, 0, none⟩ = some (.int .i64 b) ∧ w7.cell? ⟨X + 1, 1, none⟩ = some (.int .i64 l) ∧ w7.cell? ⟨X + 1 + 1, 0, none⟩ = some (.int .i64 c) ∧ w7.cell? ⟨X + 1 + 1, 1, none⟩ = some (.int .i64 m)) := s3_kept HS.out k1
    clear k1 x0 x1 y0 y1 u0 u1
    obtain ⟨V, Y, HV, HK, v0, v1⟩ := box2 w7 (.int .i64 n) (.int .i64 k) 23
    have HS : Hid (Kept [] w V ∧ V.cell? ⟨X, 0, none⟩ = some (.int .i64 a) ∧ V.cell? ⟨X, 1, none⟩ = some (.int .i64 k) ∧ V.cell? ⟨X + 1, 0, none⟩ = some (.int .i64 b) ∧ V.cell? ⟨X + 1, 1, none⟩ = some (.int .i64 l) ∧ V.cell? ⟨X + 1 + 1, 0, none⟩ = some (.int .i64 c) ∧ V.cell? ⟨X + 1 + 1, 1, none⟩ = some (.int .i64 m) ∧ V.cell? ⟨Y, 0, none⟩ = some (.int .i64 n) ∧ V.cell? ⟨Y, 1, none⟩ = some (.int .i64 k)) := by
      have h := s3_kept HS.out HK.out
      exact ⟨h.1, h.2.1, h.2.2.1, h.2.2.2.1, h.2.2.2.2.1, h.2.2.2.2.2.1, h.2.2.2.2.2.2, v0, v1⟩
    clear v0 v1 HK
    go_upto_region 8 with fail
    rw [HV.out.1, HV.out.2]
    clear HV
    refine wp_region_held_drew (S := fun w' => Kept [] w w' ∧ w'.cell? ⟨X, 0, none⟩ = some (.int .i64 a) ∧ w'.cell? ⟨X, 1, none⟩ = some (.int .i64 k) ∧ w'.cell? ⟨X + 1, 0, none⟩ = some (.int .i64 b) ∧ w'.cell? ⟨X + 1, 1, none⟩ = some (.int .i64 l) ∧ w'.cell? ⟨X + 1 + 1, 0, none⟩ = some (.int .i64 c) ∧ w'.cell? ⟨X + 1 + 1, 1, none⟩ = some (.int .i64 m) ∧ w'.cell? ⟨Y, 0, none⟩ = some (.int .i64 n) ∧ w'.cell? ⟨Y, 1, none⟩ = some (.int .i64 k)) (by kernel_rfl) ?_ (fun hHeld => ?_)
    · exact s4_drew HS.out
    refine wpAnyH_take (i := 0) (v := ?vu50) rfl (by kernel_rfl) (by kernel_rfl) (by kernel_rfl) (fun _ _ _ h => h) (Or.inl ⟨by rfl, ?hyu50⟩) (by assumption) ?_
    case hyu50 =>
      intro w hSw
      (try dsimp only at hSw)
      go_simp
      try with_reducible rfl
    try simp only [Act.put, List.setIfInBounds_toArray, List.set_cons_zero, List.set_cons_succ, List.getElem_toArray, List.getElem_cons_zero, List.getElem_cons_succ]
    refine wpAnyH_take (i := 1) (v := ?vu51) rfl (by kernel_rfl) (by kernel_rfl) (by kernel_rfl) (fun _ _ _ h => h) (Or.inl ⟨by rfl, ?hyu51⟩) (by assumption) ?_
    case hyu51 =>
      intro w hSw
      (try dsimp only at hSw)
      go_simp
      try with_reducible rfl
    try simp only [Act.put, List.setIfInBounds_toArray, List.set_cons_zero, List.set_cons_succ, List.getElem_toArray, List.getElem_cons_zero, List.getElem_cons_succ]
    refine wpAnyH_ready (rs := [2]) (by kernel_rfl) (by simp) ?_
    refine AllReadyH.cons rfl (fun K hK => ?_) AllReadyH.nil
    go_simp
    refine (P4 _).mono ?_
    rintro e w9 ⟨rfl, k9⟩
    have z9 := s4_kept (by assumption) k9
    go_wp2_with fail
    refine hK.out _ _ ?_ (fun hHeld => ?_)
    · exact z9
    clear hK K
    try simp only [Act.put, List.setIfInBounds_toArray, List.set_cons_zero, List.set_cons_succ, List.getElem_toArray, List.getElem_cons_zero, List.getElem_cons_succ]
    refine wpAnyH_take (i := 3) (v := ?vu53) rfl (by kernel_rfl) (by kernel_rfl) (by kernel_rfl) (fun _ _ _ h => h) (Or.inl ⟨by rfl, ?hyu53⟩) (by assumption) ?_
    case hyu53 =>
      intro w hSw
      (try dsimp only at hSw)
      go_simp
      try with_reducible rfl
    try simp only [Act.put, List.setIfInBounds_toArray, List.set_cons_zero, List.set_cons_succ, List.getElem_toArray, List.getElem_cons_zero, List.getElem_cons_succ]
    refine wpAnyH_take (i := 4) (v := ?vu54) rfl (by kernel_rfl) (by kernel_rfl) (by kernel_rfl) (fun _ _ _ h => h) (Or.inl ⟨by rfl, ?hyu54⟩) (by assumption) ?_
    case hyu54 =>
      intro w hSw
      (try dsimp only at hSw)
      go_simp
      try with_reducible rfl
    try simp only [Act.put, List.setIfInBounds_toArray, List.set_cons_zero, List.set_cons_succ, List.getElem_toArray, List.getElem_cons_zero, List.getElem_cons_succ]
    refine wpAnyH_take (i := 5) (v := ?vu55) rfl (by kernel_rfl) (by kernel_rfl) (by kernel_rfl) (fun _ _ _ h => h) (Or.inl ⟨by rfl, ?hyu55⟩) (by assumption) ?_
    case hyu55 =>
      intro w hSw
      (try dsimp only at hSw)
      go_simp
      try with_reducible rfl
    try simp only [Act.put, List.setIfInBounds_toArray, List.set_cons_zero, List.set_cons_succ, List.getElem_toArray, List.getElem_cons_zero, List.getElem_cons_succ]
    refine wpAnyH_ready (rs := [6]) (by kernel_rfl) (by simp) ?_
    refine AllReadyH.cons rfl (fun K hK => ?_) AllReadyH.nil
    go_simp
    refine (P5 _).mono ?_
    rintro e w9 ⟨rfl, k9⟩
    have z9 := s4_kept (by assumption) k9
    go_wp2_with fail
    refine hK.out _ _ ?_ (fun hHeld => ?_)
    · exact z9
    clear hK K
    try simp only [Act.put, List.setIfInBounds_toArray, List.set_cons_zero, List.set_cons_succ, List.getElem_toArray, List.getElem_cons_zero, List.getElem_cons_succ]
    refine wpAnyH_take (i := 7) (v := ?vu57) rfl (by kernel_rfl) (by kernel_rfl) (by kernel_rfl) (fun _ _ _ h => h) (Or.inl ⟨by rfl, ?hyu57⟩) (by assumption) ?_
    case hyu57 =>
      intro w hSw
      (try dsimp only at hSw)
      go_simp
      try with_reducible rfl
    try simp only [Act.put, List.setIfInBounds_toArray, List.set_cons_zero, List.set_cons_succ, List.getElem_toArray, List.getElem_cons_zero, List.getElem_cons_succ]
    refine wpAnyH_take (i := 8) (v := ?vu58) rfl (by kernel_rfl) (by kernel_rfl) (by kernel_rfl) (fun _ _ _ h => h) (Or.inl ⟨by rfl, ?hyu58⟩) (by assumption) ?_
    case hyu58 =>
      intro w hSw
      (try dsimp only at hSw)
      go_simp
      try with_reducible rfl
    try simp only [Act.put, List.setIfInBounds_toArray, List.set_cons_zero, List.set_cons_succ, List.getElem_toArray, List.getElem_cons_zero, List.getElem_cons_succ]
    refine wpAnyH_take (i := 9) (v := ?vu59) rfl (by kernel_rfl) (by kernel_rfl) (by kernel_rfl) (fun _ _ _ h => h) (Or.inl ⟨by rfl, ?hyu59⟩) (by assumption) ?_
    case hyu59 =>
      intro w hSw
      (try dsimp only at hSw)
      go_simp
      try with_reducible rfl
    try simp only [Act.put, List.setIfInBounds_toArray, List.set_cons_zero, List.set_cons_succ, List.getElem_toArray, List.getElem_cons_zero, List.getElem_cons_succ]
    refine wpAnyH_take (i := 10) (v := ?vu510) rfl (by kernel_rfl) (by kernel_rfl) (by kernel_rfl) (fun _ _ _ h => h) (Or.inl ⟨by rfl, ?hyu510⟩) (by assumption) ?_
    case hyu510 =>
      intro w hSw
      (try dsimp only at hSw)
      go_simp
      try with_reducible rfl
    try simp only [Act.put, List.setIfInBounds_toArray, List.set_cons_zero, List.set_cons_succ, List.getElem_toArray, List.getElem_cons_zero, List.getElem_cons_succ]
    refine wpAnyH_take (i := 11) (v := ?vu511) rfl (by kernel_rfl) (by kernel_rfl) (by kernel_rfl) (fun _ _ _ h => h) (Or.inl ⟨by rfl, ?hyu511⟩) (by assumption) ?_
    case hyu511 =>
      intro w hSw
      (try dsimp only at hSw)
      go_simp
      try with_reducible rfl
    try simp only [Act.put, List.setIfInBounds_toArray, List.set_cons_zero, List.set_cons_succ, List.getElem_toArray, List.getElem_cons_zero, List.getElem_cons_succ]
    refine wpAnyH_take (i := 12) (v := ?vu512) rfl (by kernel_rfl) (by kernel_rfl) (by kernel_rfl) (fun _ _ _ h => h) (Or.inl ⟨by rfl, ?hyu512⟩) (by assumption) ?_
    case hyu512 =>
      intro w hSw
      (try dsimp only at hSw)
      go_simp
      try with_reducible rfl
    try simp only [Act.put, List.setIfInBounds_toArray, List.set_cons_zero, List.set_cons_succ, List.getElem_toArray, List.getElem_cons_zero, List.getElem_cons_succ]
    refine wpAnyH_take (i := 13) (v := ?vu513) rfl (by kernel_rfl) (by kernel_rfl) (by kernel_rfl) (fun _ _ _ h => h) (Or.inl ⟨by rfl, ?hyu513⟩) (by assumption) ?_
    case hyu513 =>
      intro w hSw
      (try dsimp only at hSw)
      go_simp
      try with_reducible rfl
    try simp only [Act.put, List.setIfInBounds_toArray, List.set_cons_zero, List.set_cons_succ, List.getElem_toArray, List.getElem_cons_zero, List.getElem_cons_succ]
    refine wpAnyH_take (i := 14) (v := ?vu514) rfl (by kernel_rfl) (by kernel_rfl) (by kernel_rfl) (fun _ _ _ h => h) (Or.inl ⟨by rfl, ?hyu514⟩) (by assumption) ?_
    case hyu514 =>
      intro w hSw
      (try dsimp only at hSw)
      go_simp
      try with_reducible rfl
    try simp only [Act.put, List.setIfInBounds_toArray, List.set_cons_zero, List.set_cons_succ, List.getElem_toArray, List.getElem_cons_zero, List.getElem_cons_succ]
    refine wpAnyH_take (i := 15) (v := ?vu515) rfl (by kernel_rfl) (by kernel_rfl) (by kernel_rfl) (fun _ _ _ h => h) (Or.inl ⟨by rfl, ?hyu515⟩) (by assumption) ?_
    case hyu515 =>
      intro w hSw
      (try dsimp only at hSw)
      go_simp
      try with_reducible rfl
    try simp only [Act.put, List.setIfInBounds_toArray, List.set_cons_zero, List.set_cons_succ, List.getElem_toArray, List.getElem_cons_zero, List.getElem_cons_succ]
    refine wpAnyH_take (i := 16) (v := ?vu516) rfl (by kernel_rfl) (by kernel_rfl) (by kernel_rfl) (fun _ _ _ h => h) (Or.inl ⟨by rfl, ?hyu516⟩) (by assumption) ?_
    case hyu516 =>
      intro w hSw
      (try dsimp only at hSw)
      go_simp
      try with_reducible rfl
    try simp only [Act.put, List.setIfInBounds_toArray, List.set_cons_zero, List.set_cons_succ, List.getElem_toArray, List.getElem_cons_zero, List.getElem_cons_succ]
    refine wpAnyH_take (i := 17) (v := ?vu517) rfl (by kernel_rfl) (by kernel_rfl) (by kernel_rfl) (fun _ _ _ h => h) (Or.inl ⟨by rfl, ?hyu517⟩) (by assumption) ?_
    case hyu517 =>
      intro w hSw
      (try dsimp only at hSw)
      go_simp
      try with_reducible rfl
    try simp only [Act.put, List.setIfInBounds_toArray, List.set_cons_zero, List.set_cons_succ, List.getElem_toArray, List.getElem_cons_zero, List.getElem_cons_succ]
    refine wpAnyH_take (i := 19) (v := ?vu519) rfl (by kernel_rfl) (by kernel_rfl) (by kernel_rfl) (fun _ _ _ h => h) (Or.inl ⟨by rfl, ?hyu519⟩) (by assumption) ?_
    case hyu519 =>
      intro w hSw
      (try dsimp only at hSw)
      go_simp
      try with_reducible rfl
    try simp only [Act.put, List.setIfInBounds_toArray, List.set_cons_zero, List.set_cons_succ, List.getElem_toArray, List.getElem_cons_zero, List.getElem_cons_succ]
    refine wpAnyH_take (i := 20) (v := ?vu520) rfl (by kernel_rfl) (by kernel_rfl) (by kernel_rfl) (fun _ _ _ h => h) (Or.inl ⟨by rfl, ?hyu520⟩) (by assumption) ?_
    case hyu520 =>
      intro w hSw
      (try dsimp only at hSw)
      go_simp
      try with_reducible rfl
    try simp only [Act.put, List.setIfInBounds_toArray, List.set_cons_zero, List.set_cons_succ, List.getElem_toArray, List.getElem_cons_zero, List.getElem_cons_succ]
    refine wpAnyH_take (i := 23) (v := ?vu523) rfl (by kernel_rfl) (by kernel_rfl) (by kernel_rfl) (fun _ _ _ h => h) (Or.inl ⟨by rfl, ?hyu523⟩) (by assumption) ?_
    case hyu523 =>
      intro w hSw
      (try dsimp only at hSw)
      go_simp
      try with_reducible rfl
    try simp only [Act.put, List.setIfInBounds_toArray, List.set_cons_zero, List.set_cons_succ, List.getElem_toArray, List.getElem_cons_zero, List.getElem_cons_succ]
    refine wpAnyH_take (i := 24) (v := ?vu524) rfl (by kernel_rfl) (by kernel_rfl) (by kernel_rfl) (fun _ _ _ h => h) (Or.inl ⟨by rfl, ?hyu524⟩) (by assumption) ?_
    case hyu524 =>
      intro w hSw
      (try dsimp only at hSw)
      go_simp
      try with_reducible rfl
    try simp only [Act.put, List.setIfInBounds_toArray, List.set_cons_zero, List.set_cons_succ, List.getElem_toArray, List.getElem_cons_zero, List.getElem_cons_succ]
    refine wpAnyH_take (i := 25) (v := ?vu525) rfl (by kernel_rfl) (by kernel_rfl) (by kernel_rfl) (fun _ _ _ h => h) (Or.inl ⟨by rfl, ?hyu525⟩) (by assumption) ?_
    case hyu525 =>
      intro w hSw
      (try dsimp only at hSw)
      go_simp
      try with_reducible rfl
    try simp only [Act.put, List.setIfInBounds_toArray, List.set_cons_zero, List.set_cons_succ, List.getElem_toArray, List.getElem_cons_zero, List.getElem_cons_succ]
    refine wpAnyH_ready (rs := [18]) (by kernel_rfl) (by simp) ?_
    refine AllReadyH.cons rfl (fun K hK => ?_) AllReadyH.nil
    go_simp
    refine (P6 _).mono ?_
    rintro e w9 ⟨rfl, k9⟩
    have z9 := s4_kept (by assumption) k9
    go_wp2_with fail
    refine hK.out _ _ ?_ (fun hHeld => ?_)
    · exact z9
    clear hK K
    try simp only [Act.put, List.setIfInBounds_toArray, List.set_cons_zero, List.set_cons_succ, List.getElem_toArray, List.getElem_cons_zero, List.getElem_cons_succ]
    refine wpAnyH_ready (rs := [21]) (by kernel_rfl) (by simp) ?_
    refine AllReadyH.cons rfl (fun K hK => ?_) AllReadyH.nil
    go_simp
    refine (P7 _).mono ?_
    rintro e w9 ⟨rfl, k9⟩
    have z9 := s4_kept (by assumption) k9
    go_wp2_with fail
    refine hK.out _ _ ?_ (fun hHeld => ?_)
    · exact z9
    clear hK K
    try simp only [Act.put, List.setIfInBounds_toArray, List.set_cons_zero, List.set_cons_succ, List.getElem_toArray, List.getElem_cons_zero, List.getElem_cons_succ]
    refine wpAnyH_take (i := 22) (v := ?vu522) rfl (by kernel_rfl) (by kernel_rfl) (by kernel_rfl) (fun _ _ _ h => h) (Or.inl ⟨by rfl, ?hyu522⟩) (by assumption) ?_
    case hyu522 =>
      intro w hSw
      (try dsimp only at hSw)
      go_simp
      try with_reducible rfl
    try simp only [Act.put, List.setIfInBounds_toArray, List.set_cons_zero, List.set_cons_succ, List.getElem_toArray, List.getElem_cons_zero, List.getElem_cons_succ]
    refine wpAnyH_take (i := 26) (v := ?vu526) rfl (by kernel_rfl) (by kernel_rfl) (by kernel_rfl) (fun _ _ _ h => h) (Or.inl ⟨by rfl, ?hyu526⟩) (by assumption) ?_
    case hyu526 =>
      intro w hSw
      (try dsimp only at hSw)
      go_simp
      try with_reducible rfl
    try simp only [Act.put, List.setIfInBounds_toArray, List.set_cons_zero, List.set_cons_succ, List.getElem_toArray, List.getElem_cons_zero, List.getElem_cons_succ]
    refine wpAnyH_take (i := 27) (v := ?vu527) rfl (by kernel_rfl) (by kernel_rfl) (by kernel_rfl) (fun _ _ _ h => h) (Or.inl ⟨by rfl, ?hyu527⟩) (by assumption) ?_
    case hyu527 =>
      intro w hSw
      (try dsimp only at hSw)
      go_simp
      try with_reducible rfl
    try simp only [Act.put, List.setIfInBounds_toArray, List.set_cons_zero, List.set_cons_succ, List.getElem_toArray, List.getElem_cons_zero, List.getElem_cons_succ]
    refine wpAnyH_take (i := 28) (v := ?vu528) rfl (by kernel_rfl) (by kernel_rfl) (by kernel_rfl) (fun _ _ _ h => h) (Or.inl ⟨by rfl, ?hyu528⟩) (by assumption) ?_
    case hyu528 =>
      intro w hSw
      (try dsimp only at hSw)
      go_simp
      try with_reducible rfl
    try simp only [Act.put, List.setIfInBounds_toArray, List.set_cons_zero, List.set_cons_succ, List.getElem_toArray, List.getElem_cons_zero, List.getElem_cons_succ]
    refine wpAnyH_done (by kernel_rfl) ?_ _
    have HZ : Hid (_) := hHeld.1
    clear hHeld
    go_wp2_with fail
    go_ret
    exact ⟨rfl, HZ.out.below (Nat.le_refl _) (by simp)⟩

set_option maxRecDepth 100000 in
set_option maxHeartbeats 8000000 in
theorem walk (a k b l c m : Int) (w : World) (g1 : (Lit.int .i64 a).wf = true) (g2 : (Lit.int .i64 k).wf = true) (g3 : (Lit.int .i64 b).wf = true) (g4 : (Lit.int .i64 l).wf = true) (g5 : (Lit.int .i64 c).wf = true) (g6 : (Lit.int .i64 m).wf = true) :
    Calls Try.prog 4 #[.agg #[.int .i64 a, .int .i64 k], .agg #[.int .i64 b, .int .i64 l], .agg #[.int .i64 c, .int .i64 m]] w fun e w' => e = .returned (.bool true) ∧ Below w.heap.size w w' := by
  rcases h1 : mayS a k with _ | _
  · exact walk1 a k b l c m w h1
  rcases h2 : mayS b l with _ | _
  · exact walk2 a k b l c m w h1 h2
  rcases one_less a k b l with ⟨h3, h4, h5⟩ | ⟨h3, h4, h5⟩ | ⟨h3, h4, h5⟩
  · exact walk3 a k b l c m w h1 h2 h3 h4 h5
  · exact walk4 a k b l c m w h1 h2 h3 h4 h5
  · exact walk5 a k b l c m w h1 h2 h3 h4 h5

set_option maxRecDepth 100000 in
theorem lifted (os : Os) (started : os.Started) (H : Type) (enc : TypeId × Value → H) :
    ReturnsInHanded {} Try.checked os 4 .any (Rows.stampOrdersSpec.pre6 enc Try.prog Try.f4 Rows.stampOrdersRow.domain false) (Rows.stampOrdersSpec.post enc Try.prog Try.f4 false true false false) := by
  refine returnsInHanded_of_change (C := Try.checked) own started (by kernel_rfl) Try.func4
    (ChangeSpec.witness6 (enc := enc) (C := Try.checked) false ⟨#[], #[.agg #[.int .i64 0, .int .i64 0], .agg #[.int .i64 0, .int .i64 0], .agg #[.int .i64 0, .int .i64 0]], []⟩ 8 (by kernel_rfl) (by kernel_rfl) (by kernel_rfl) (by kernel_rfl)) ?_
  intro W base args ds gs before hval0 hW hcnd _
  have hval : ∀ (j : Nat) t v, Try.f4.params[j]? = some t → args[j]? = some v → Value.okWide Try.prog W .any base t v := hval0
  have hW' := hW
  obtain ⟨p, q, hA0, hV, rfl, hfz, hnd⟩ := hW
  have hA : DataW.TrodAll enc Try.prog W 0 (fun _ => true) true Try.f4.params.toList args.toList ds p := hA0
  rw [Try.params4] at hA hval
  obtain ⟨v0, vs0, d0, ds0, p0, q0, hargs, rfl, rfl, h0, r0⟩ := trodAll_cons hA
  obtain ⟨v1, vs1, d1, ds1, p1, q1, rfl, rfl, rfl, h1, r1⟩ := trodAll_cons r0
  obtain ⟨v2, vs2, d2, ds2, p2, q2, rfl, rfl, rfl, h2, r2⟩ := trodAll_cons r1
  obtain ⟨rfl, rfl, rfl⟩ := trodAll_nil r2
  obtain rfl : args = #[v0, v1, v2] := by cases args; simp_all
  obtain ⟨rfl, rfl⟩ := trodVars_none hV
  obtain ⟨cs0, rfl, -⟩ := okWide_struct Try.underlying23 (hval 0 23 v0 rfl rfl)
  have k0 := h0
  have lt0 : ∀ x ∈ p0, x.block < W.heap.size := by obtain ⟨m, hm⟩ := k0; exact DataW.trod_lt m _ _ _ hm
  obtain ⟨a0, b0, ec0, w0, u0⟩ : ∃ a b, cs0 = #[.int .i64 a, .int .i64 b] ∧ (Lit.int .i64 a).wf = true ∧ (Lit.int .i64 b).wf = true := by
    obtain ⟨fuel, hf⟩ := h0
    obtain ⟨a, b, e, x, y⟩ := pair_open hf
    exact ⟨a, b, by cases cs0; simpa [Value.cells] using e, x, y⟩
  subst ec0
  obtain ⟨cs1, rfl, -⟩ := okWide_struct Try.underlying23 (hval 1 23 v1 rfl rfl)
  have k1 := h1
  have lt1 : ∀ x ∈ p1, x.block < W.heap.size := by obtain ⟨m, hm⟩ := k1; exact DataW.trod_lt m _ _ _ hm
  obtain ⟨a1, b1, ec1, w1, u1⟩ : ∃ a b, cs1 = #[.int .i64 a, .int .i64 b] ∧ (Lit.int .i64 a).wf = true ∧ (Lit.int .i64 b).wf = true := by
    obtain ⟨fuel, hf⟩ := h1
    obtain ⟨a, b, e, x, y⟩ := pair_open hf
    exact ⟨a, b, by cases cs1; simpa [Value.cells] using e, x, y⟩
  subst ec1
  obtain ⟨cs2, rfl, -⟩ := okWide_struct Try.underlying23 (hval 2 23 v2 rfl rfl)
  have k2 := h2
  have lt2 : ∀ x ∈ p2, x.block < W.heap.size := by obtain ⟨m, hm⟩ := k2; exact DataW.trod_lt m _ _ _ hm
  obtain ⟨a2, b2, ec2, w2, u2⟩ : ∃ a b, cs2 = #[.int .i64 a, .int .i64 b] ∧ (Lit.int .i64 a).wf = true ∧ (Lit.int .i64 b).wf = true := by
    obtain ⟨fuel, hf⟩ := h2
    obtain ⟨a, b, e, x, y⟩ := pair_open hf
    exact ⟨a, b, by cases cs2; simpa [Value.cells] using e, x, y⟩
  subst ec2
  clear hA0 hval0
  refine (walk a0 b0 a1 b1 a2 b2 W w0 u0 w1 u1 w2 u2).mono fun e W' ⟨he, bel⟩ => ?_
  subst he
  exact ⟨_, rfl, _, _, _, [], _, [], hW', trodAll_mk1 (shut_bool Try.underlying4 _), (trodAll_cons_mk (Below.trod laidOut (by kernel_rfl) (of_decide_eq_true (by kernel_rfl)) k0 bel lt0) (trodAll_cons_mk (Below.trod laidOut (by kernel_rfl) (of_decide_eq_true (by kernel_rfl)) k1 bel lt1) (trodAll_cons_mk (Below.trod laidOut (by kernel_rfl) (of_decide_eq_true (by kernel_rfl)) k2 bel lt2) trodAll_mk0))), rfl, bel.frame _, fun h => by cases h⟩

theorem over : Rows.stampOrdersRow.holds Try.pinned (OpenSpec.ofChange Rows.stampOrdersSpec) :=
  OpenClaim.holds_of_wide 4 Try.f4 rfl rfl rfl rfl rfl rfl rfl ⟨rfl, rfl, rfl, rfl, rfl⟩ rfl rfl rfl rfl rfl (by kernel_rfl) Try.func4 (by kernel_rfl)
    (of_decide_eq_true (by kernel_rfl)) (by unfold Func.isWrapper; first | (rw [if_pos (by decide +kernel)]; kernel_rfl) | (rw [if_neg (by decide +kernel)]; exact ⟨rfl, rfl⟩))
    (fun os started H enc _ => lifted os started H enc)

end Go.Proofs.Ythjhkcdicaiohaa.stampOrders

namespace Go.Proofs.Ythjhkcdicaiohaa
theorem stampOrders_holds : Rows.StampOrdersSaid := stampOrders.over
#print axioms stampOrders_holds
end Go.Proofs.Ythjhkcdicaiohaa
