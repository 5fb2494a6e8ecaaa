/-
  The law's look at both counts.
-/
import Derived.Test.YtljmpcmkgeomiaaMlist
namespace Go.Proofs.Ytljmpcmkgeomiaa
open Go.RowKit
set_option linter.unusedVariables false

/-- Counts of package refs (m) and the law's own (m2) side by side; p: where the law's lie. -/
structure Jm (w0 w : World) (b g k n L N : Nat) (p : Nat → Nat) (m m2 : Mo) : Prop where
  refs : Rm Any (mS p k n m2 ++ [(g, box b 0 n)]) w0 w b g 0 n k L N m
  one : ∀ i j, i < 8 + k → j < 8 + k → p i = p j → i = j
  new : ∀ i, i < 8 + k → p i ≠ g

section
variable {w0 w : World} {b g k n L N : Nat} {p : Nat → Nat} {m m2 : Mo}

theorem Jm.md (h : Jm w0 w b g k n L N p m m2) : Md w p k n m2 :=
  ⟨h.one, fun i hi => h.refs.at_ (x := (p i, ob p k n m2 i)) (List.mem_append.2 (Or.inl (mem_mS.2 ⟨i, hi, rfl⟩)))⟩

theorem Jm.mono (h : Jm w0 w b g k n L N p m m2) {N' : Nat} (hN : N ≤ N') : Jm w0 w b g k n L N' p m m2 := ⟨h.refs.mono hN, h.one, h.new⟩

theorem Jm.still (h : Jm w0 w b g k n L N p m m2) {w' : World} (hk : Kept [] w w') : Jm w0 w' b g k n L N p m m2 := ⟨h.refs.still hk, h.one, h.new⟩

/-- The law's own counts turn. -/
theorem Jm.turn (h : Jm w0 w b g k n L N p m m2) {w' : World} {m3 : Mo} (hk : Kept (mB p k) w w') (hm : Md w' p k n m3) : Jm w0 w' b g k n L N p m m3 := by
  refine ⟨h.refs.turn (mB p k) (fun x hx => ?_) hk _ (by simp) (fun x hx => ?_), h.one, h.new⟩
  · obtain ⟨i, hi, rfl⟩ := mem_mB.1 hx
    exact ⟨_, List.mem_append.2 (Or.inl (mem_mS.2 ⟨i, hi, rfl⟩))⟩
  · rcases List.mem_append.1 hx with hx | hx
    · obtain ⟨i, hi, rfl⟩ := mem_mS.1 hx
      exact ⟨Or.inr ⟨_, List.mem_append.2 (Or.inl (mem_mS.2 ⟨i, hi, rfl⟩))⟩, hm.lie i hi⟩
    · rw [List.mem_singleton] at hx
      subst hx
      refine ⟨Or.inr ⟨_, List.mem_append.2 (Or.inr (List.mem_singleton.2 rfl))⟩, ?_⟩
      have h1 := h.refs.at_ (x := (g, box b 0 n)) (List.mem_append.2 (Or.inr (List.mem_singleton.2 rfl)))
      rw [hk.block g (lt_of_heap h1) (fun hg => ?_)]
      · exact h1
      · obtain ⟨i, hi, e⟩ := mem_mB.1 hg
        exact h.new i hi e.symm

theorem Jm.as (h : Jm w0 w b g k n L N p m m2) {m3 : Mo} (e : Eqv k n m2 m3) : Jm w0 w b g k n L N p m m3 :=
  h.turn (Kept.refl _ _) (h.md.as e)

theorem Jm.to (h : Jm w0 w b g k n L N p m m2) {w' : World} {N' : Nat} {m' : Mo} (hr : Rm Any (mS p k n m2 ++ [(g, box b 0 n)]) w0 w' b g 0 n k L N' m') : Jm w0 w' b g k n L N' p m' m2 := ⟨hr, h.one, h.new⟩

set_option maxRecDepth 100000 in
set_option maxHeartbeats 4000000 in
theorem p_counts (h : Jm w0 w b g k n L N p m m) (hN : N < 900000) :
    Calls Try.prog 18 #[.pointer (some ⟨g, 0, none⟩), .pointer (some ⟨p 0, 0, none⟩), .int .i64 (k : Int)] w fun e w' => e = .returned (.bool true) ∧ Kept [] w0 w' := by
  have F := h.refs.fx
  have n64 := F.nhi
  have k8 := F.khi
  have H0 : Hid (_) := h
  clear h
  go_enter Try.func18, Try.ntmps18
  go_wp2_with fail
  go_loopw [7] (fun i wr => ∃ j : Nat, i = .int .i64 (j : Int) ∧ j ≤ n ∧ Hid (Jm w0 wr b g k n L (N + 10 * j) p m m)) (fun i _ => (n - intOf i).toNat)
  case atStart => exact ⟨0, rfl, by omega, H0.out⟩
  case round =>
    clear H0
    obtain ⟨j, rfl, hj, HJ⟩ := hrel
    obtain ⟨c0, c1, c2, c3, c4, c5, c6, c7⟩ := Md.main (Jm.md HJ.out)
    by_cases hlt : j < n
    · have i0 : (j : Int) < (n : Int) := by omega
      have i1 : (0 : Int) ≤ (j : Int) := by omega
      have q1 := Md.glob (Jm.md HJ.out) j hlt
      go_wp2_with fail
      go_loopw [8, 9] (fun s i wr2 => ∃ r : Nat, i = .int .i64 (r : Int) ∧ s = .int .i64 (m.tot j r) ∧ r ≤ k ∧ wr2 = wr) (fun _ i _ => (k - intOf i).toNat)
      case atStart => exact ⟨0, rfl, rfl, by omega, rfl⟩
      case round =>
        obtain ⟨r, rfl, rfl, hr, rfl⟩ := hrel
        by_cases hlr : r < k
        · have i2 : (r : Int) < (k : Int) := by omega
          have i3 : (0 : Int) ≤ (r : Int) := by omega
          have q2 := Md.row (Jm.md HJ.out) r hlr
          have q3 := Md.part (Jm.md HJ.out) r j hlr hlt
          go_wp2
          go_roundw
          case rel => exact ⟨r + 1, by go_num, rfl, by omega, trivial⟩
          case measure => simp [intOf]; omega
        · have e : r = k := by omega
          clear c0 c1 c2 c3 c4 c5 c6 c7 q1
          have ET : Hid (m.tot j r = m.tot j k) := by show m.tot j r = m.tot j k; rw [e]
          rw [ET.out]
          have i2 : ¬ (r : Int) < (k : Int) := by omega
          clear e ET
          go_wp2_with fail
          refine (m_global (Jm.refs HJ.out) j hlt any (by omega)).mono ?_
          rintro e w1 ⟨rfl, h1⟩
          have H1 : Hid (_) := Jm.to HJ.out h1
          clear h1 HJ
          go_wp2_with fail
          refine (m_total (Jm.refs H1.out) j hlt any (by omega)).mono ?_
          rintro e w2 ⟨rfl, h2⟩
          have H2 : Hid (_) := Jm.to H1.out h2
          clear h2 H1
          obtain ⟨c0, c1, c2, c3, c4, c5, c6, c7⟩ := Md.main (Jm.md H2.out)
          have q1 := Md.glob (Jm.md H2.out) j hlt
          have t1 : (m.glob j != m.glob j) = false := by simp
          have t2 : (m.tot j k != m.tot j k) = false := by simp
          go_wp2_with (first
            | (go_at_call 9; refine (num _ _).mono ?_; rintro e w' ⟨rfl, rfl⟩))
          go_roundw
          case rel => exact ⟨j + 1, by go_num, by omega, Jm.mono H2.out (by omega)⟩
          case measure => simp [intOf]; omega
    · go_wp2_with fail
      go_ret
      exact ⟨rfl, (Jm.refs HJ.out).old⟩

end
end Go.Proofs.Ytljmpcmkgeomiaa
