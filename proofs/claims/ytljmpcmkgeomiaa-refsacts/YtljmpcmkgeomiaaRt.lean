/-
  Counts of package refs: what they tell.
-/
import Derived.Test.YtljmpcmkgeomiaaRn
namespace Go.Proofs.Ytljmpcmkgeomiaa
open Go.RowKit
set_option linter.unusedVariables false

/-- The global part, and the parts of the cores below m. -/
def tot (k : Nat) (W : Nat → Nat → Int) (o : Nat) : Nat → Int
  | 0 => W k o
  | c + 1 => wrap64 (tot k W o c + W c o)

/-- The dead below m. -/
def dl (k : Nat) (W : Nat → Nat → Int) : Nat → List Int
  | 0 => []
  | o + 1 => if W (k + 1) o = 2 then dl k W o ++ [(o : Int)] else dl k W o

theorem dl_length (k : Nat) (W : Nat → Nat → Int) (m : Nat) : (dl k W m).length ≤ m := by
  induction m with
  | zero => exact Nat.le_refl _
  | succ o ih =>
    unfold dl
    split
    · rw [List.length_append]; simp only [List.length_cons, List.length_nil]; omega
    · omega

theorem Od.slice {u : Value} {xs : List Int} {D : List (Nat × Obj)} (h : Od u xs D) : ∃ a cap, u = .slice a xs.length cap := by
  rcases h with ⟨rfl, rfl, -⟩ | ⟨g, cap, cur, rfl, -⟩
  · exact ⟨none, 0, rfl⟩
  · exact ⟨_, cap, rfl⟩

section
variable {P : Nat → Nat → Prop} {S : List (Nat × Obj)} {w0 w : World} {b g f n k L N : Nat} {W : Nat → Nat → Int}

set_option maxRecDepth 100000 in
theorem r_global (h : Rs P S w0 w b g f n k L N W) (o : Nat) (ho : o < n) (hP : ∀ c x, P c x) (hN : N < 999900) :
    Calls Try.prog 37 #[.pointer (some ⟨g, 0, none⟩), .int .i64 (o : Int)] w fun e w' => e = .returned (.tuple #[.int .i64 (W k o), .int .i64 0]) ∧ Rs P S w0 w' b g f n k L (N + 1) W := by
  have F := h.fx
  have k1 := F.klo
  go_enter Try.func37, Try.ntmps37
  go_wp2_with fail
  refine (r_obj_yes h o ho).mono ?_
  rintro e w' ⟨rfl, rfl⟩
  go_wp2_with fail
  refine (r_globalAt h o ho).mono ?_
  rintro e w1 ⟨rfl, hk⟩
  have H1 : Hid (_) := Rs.still h hk
  clear hk
  go_wp2_with fail
  refine (r_load H1.out 0 k o (by omega) (by omega) (by omega) (hP _ _) (by omega)).mono ?_
  rintro e w2 ⟨rfl, h2⟩
  have H2 : Hid (_) := h2
  clear h2 H1
  go_wp2_with fail
  go_ret2
  exact ⟨rfl, H2.out⟩

set_option maxRecDepth 100000 in
theorem r_global_no (h : Rs P S w0 w b g f n k L N W) (o : Int) (ho : o < 0 ∨ (n : Int) ≤ o) :
    Calls Try.prog 37 #[.pointer (some ⟨g, 0, none⟩), .int .i64 o] w fun e w' => e = .returned (.tuple #[.int .i64 0, .int .i64 601]) ∧ w' = w := by
  go_enter Try.func37, Try.ntmps37
  go_wp2_with fail
  refine (r_obj_no h o ho).mono ?_
  rintro e w' ⟨rfl, rfl⟩
  go_wp2_with fail
  go_ret2
  exact ⟨rfl, rfl⟩

set_option maxRecDepth 100000 in
set_option maxHeartbeats 1000000 in
theorem r_total (h : Rs P S w0 w b g f n k L N W) (o : Nat) (ho : o < n) (hP : ∀ c x, P c x) (hN : N < 999900) :
    Calls Try.prog 38 #[.pointer (some ⟨g, 0, none⟩), .int .i64 (o : Int)] w fun e w' => e = .returned (.tuple #[.int .i64 (tot k W o k), .int .i64 0]) ∧ Rs P S w0 w' b g f n k L (N + 9) W := by
  have F := h.fx
  have k8 := F.khi
  go_enter Try.func38, Try.ntmps38
  go_wp2_with fail
  refine (r_global h o ho hP hN).mono ?_
  rintro e w1 ⟨rfl, h1⟩
  obtain ⟨c0, c1, c2⟩ := h1.cells
  have H1 : Hid (_) := h1
  clear h1
  go_wp2_with fail
  refine (r_cores H1.out).mono ?_
  rintro e w' ⟨rfl, rfl⟩
  clear c0 c1 c2
  go_wp2_with fail
  go_loopw [6, 23] (fun s i wr => ∃ j : Nat, i = .int .i64 (j : Int) ∧ s = .int .i64 (tot k W o j) ∧ j ≤ k ∧ Hid (Rs P S w0 wr b g f n k L (N + 1 + j) W)) (fun _ i _ => (k - intOf i).toNat)
  case atStart => exact ⟨0, rfl, rfl, by omega, H1.out⟩
  case round =>
    obtain ⟨j, rfl, rfl, hj, HJ⟩ := hrel
    by_cases hlt : j < k
    · have i0 : (j : Int) < (k : Int) := by omega
      go_wp2_with fail
      refine (r_partAt HJ.out j o hlt ho).mono ?_
      rintro e w1 ⟨rfl, hk⟩
      have H1 : Hid (_) := Rs.still HJ.out hk
      clear hk HJ
      go_wp2_with fail
      refine (r_load H1.out j j o hlt (by omega) (by omega) (hP _ _) (by omega)).mono ?_
      rintro e w2 ⟨rfl, h2⟩
      have H2 : Hid (_) := h2
      clear h2 H1
      go_wp2
      go_roundw
      case rel => exact ⟨j + 1, by go_num, rfl, by omega, H2.out⟩
      case measure => simp [intOf]; omega
    · have e : j = k := by omega
      subst e
      go_wp2_with fail
      go_ret2
      exact ⟨rfl, HJ.out.mono (by omega)⟩

set_option maxRecDepth 100000 in
theorem r_Epoch (h : Rs P S w0 w b g f n k L N W) (hP : ∀ c x, P c x) (hN : N < 999900) :
    Calls Try.prog 14 #[.pointer (some ⟨g, 0, none⟩)] w fun e w' => e = .returned (.int .i64 (W k n)) ∧ Rs P S w0 w' b g f n k L (N + 1) W := by
  have F := h.fx
  have k1 := F.klo
  go_enter Try.func14, Try.ntmps14
  go_wp2_with fail
  refine (r_epoch h 0 (by omega) (hP _ _) (by omega)).mono ?_
  rintro e w1 ⟨rfl, h1⟩
  have H1 : Hid (_) := h1
  clear h1
  go_wp2_with fail
  go_ret
  exact ⟨rfl, H1.out⟩

set_option maxRecDepth 100000 in
set_option maxHeartbeats 1000000 in
theorem r_dead (h : Rs P S w0 w b g f n k L N W) (hP : ∀ c x, P c x) (hN : N < 999900) :
    Calls Try.prog 16 #[.pointer (some ⟨g, 0, none⟩)] w fun e w' => ∃ u D, e = .returned u ∧ Od u (dl k W n) D ∧ Rs P (D ++ S) w0 w' b g f n k L (N + 64) W ∧ ∀ x ∈ D, ∀ y ∈ S, y.1 ≠ x.1 := by
  have F := h.fx
  have k1 := F.klo
  have n64 := F.nhi
  have HS : Hid (_) := h.mem
  obtain ⟨c0, c1, c2⟩ := h.cells
  have H0 : Hid (_) := h
  go_enter Try.func16, Try.ntmps16
  go_wp2_with fail
  clear h c0 c1 c2
  go_loopw [3, 11] (fun s i wr => ∃ (j : Nat) (a : Option Addr) (c : Nat), i = .int .i64 (j : Int) ∧ s = .slice a (dl k W j).length c ∧ j ≤ n ∧ Hid (∃ D, Od (.slice a (dl k W j).length c) (dl k W j) D ∧ Rs P (D ++ S) w0 wr b g f n k L (N + j) W ∧ ∀ x ∈ D, ∀ y ∈ S, y.1 ≠ x.1)) (fun _ i _ => (n - intOf i).toNat)
  case atStart => exact ⟨0, none, 0, rfl, rfl, by omega, [], Or.inl ⟨rfl, rfl, rfl⟩, H0.out, by simp⟩
  case round =>
    obtain ⟨j, a, c, rfl, rfl, hj, HJ⟩ := hrel
    obtain ⟨D, hO, hR, hD⟩ := HJ.out
    have HO : Hid (_ ∧ _) := ⟨hO, hD⟩
    have HR : Hid (_) := hR
    clear HJ hO hR hD
    have hdl := dl_length k W j
    by_cases hlt : j < n
    · have i0 : (j : Int) < (n : Int) := by omega
      go_wp2_with fail
      refine (r_stateAt HR.out j hlt).mono ?_
      rintro e w1 ⟨rfl, hk⟩
      have H1 : Hid (_) := Rs.still HR.out hk
      clear hk HR
      go_wp2_with fail
      refine (r_load H1.out 0 (k + 1) j (by omega) (by omega) (by omega) (hP _ _) (by omega)).mono ?_
      rintro e w2 ⟨rfl, h2⟩
      have H2 : Hid (_) := h2
      clear h2 H1
      by_cases hd : W (k + 1) j = 2
      · have E : Hid (dl k W (j + 1) = dl k W j ++ [(j : Int)]) := if_pos hd
        rw [hd]
        clear hd
        obtain ⟨v', w3, D', hr, q1, q2, q3⟩ := Rs.append H2.out HO.out.1 HS.out HO.out.2 (j : Int) (by omega) 33
        obtain ⟨a', c', rfl⟩ := q1.slice
        have HQ : Hid (_ ∧ _ ∧ _) := ⟨q1, q2, q3⟩
        clear q1 q2 q3 H2 HO
        go_wp2_with (at_builtin; refine wpList_append_run _ rfl _ _ 33 33 rfl _ _ rfl rfl _ _ hr ?_)
        go_roundw
        case rel => exact ⟨j + 1, a', c', by go_num, by rw [E.out, List.length_append]; rfl, by omega, D', by rw [E.out]; exact HQ.out.1, HQ.out.2.1, HQ.out.2.2⟩
        case measure => simp [intOf]; omega
      · have E : Hid (dl k W (j + 1) = dl k W j) := if_neg hd
        have t1 : (W (k + 1) j == 2) = false := by simpa using hd
        clear hd
        go_wp2
        go_roundw
        case rel => exact ⟨j + 1, a, c, by go_num, by rw [E.out], by omega, D, by rw [E.out]; exact HO.out.1, H2.out, HO.out.2⟩
        case measure => simp [intOf]; omega
    · have e : j = n := by omega
      subst e
      go_wp2_with fail
      go_ret
      exact ⟨_, D, rfl, HO.out.1, HR.out.mono (by omega), HO.out.2⟩

end
end Go.Proofs.Ytljmpcmkgeomiaa
