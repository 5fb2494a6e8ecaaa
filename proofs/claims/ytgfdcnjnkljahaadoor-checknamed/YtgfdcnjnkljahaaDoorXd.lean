/-
  A heap of findings: up, Push, add.
-/
import Derived.Test.YtgfdcnjnkljahaaDoorXc
namespace Go.Proofs.YtgfdcnjnkljahaaDoor
open Go.RowKit Go.Lib
set_option linter.unusedVariables false

theorem load_told (X : Nat) (v : Value) (w : World) (h : w.cell? ⟨X, 7, none⟩ = some v) : (loadVar 55 ⟨X, 7, none⟩).run Tryd.prog w = .ok v w := by
  have hq : (isAgg 55).run Tryd.prog w = .ok false w := by kernel_rfl
  unfold loadVar
  simp only [Sem.run_bind, hq, Result.andThen_ok]
  simp [h]

theorem m_push (a : Addr) (w : World) : (method 236 66 (.pointer (some a)) "Push").run Tryd.prog w = .ok (95, .pointer (some a)) w := by kernel_rfl

theorem m_pop (a : Addr) (w : World) : (method 236 66 (.pointer (some a)) "Pop").run Tryd.prog w = .ok (94, .pointer (some a)) w := by kernel_rfl

theorem m_less {X : Nat} {v : Value} {w : World} (h : w.cell? ⟨X, 7, none⟩ = some v) : (method 236 66 (.pointer (some ⟨X, 7, none⟩)) "Less").run Tryd.prog w = .ok (85, v) w := by
  have e : (method 236 66 (.pointer (some ⟨X, 7, none⟩)) "Less").run Tryd.prog w = (do pure (85, ← loadVar 55 ⟨X, 7, none⟩)).run Tryd.prog w := by kernel_rfl
  rw [e, Sem.run_bind, load_told X v w h]; rfl

theorem m_swap {X : Nat} {v : Value} {w : World} (h : w.cell? ⟨X, 7, none⟩ = some v) : (method 236 66 (.pointer (some ⟨X, 7, none⟩)) "Swap").run Tryd.prog w = .ok (86, v) w := by
  have e : (method 236 66 (.pointer (some ⟨X, 7, none⟩)) "Swap").run Tryd.prog w = (do pure (86, ← loadVar 55 ⟨X, 7, none⟩)).run Tryd.prog w := by kernel_rfl
  rw [e, Sem.run_bind, load_told X v w h]; rfl

theorem m_len {X : Nat} {v : Value} {w : World} (h : w.cell? ⟨X, 7, none⟩ = some v) : (method 236 66 (.pointer (some ⟨X, 7, none⟩)) "Len").run Tryd.prog w = .ok (35, v) w := by
  have e : (method 236 66 (.pointer (some ⟨X, 7, none⟩)) "Len").run Tryd.prog w = (do pure (35, ← loadVar 55 ⟨X, 7, none⟩)).run Tryd.prog w := by kernel_rfl
  rw [e, Sem.run_bind, load_told X v w h]; rfl

theorem Tl.val {F : List Nat} {w0 w : World} {X : Nat} {q : Lq} {v : Value} {L : List Fi} (h : Tl F w0 X q w v L) : ∃ a c, v = .slice a L.length c := by
  obtain ⟨a, c, e, -⟩ := h.slice
  exact ⟨a, c, e⟩

/-- A finding of a row. -/
def getF (L : List Fi) (i : Nat) : Fi := L.getD i ⟨0, 0, ⟨#[]⟩⟩

theorem getF_eq {L : List Fi} {i : Nat} (h : i < L.length) : getF L i = L[i] := by simp [getF, h]

/-- One that came last goes up. -/
def upF : Nat → List Fi → Nat → List Fi
  | 0, L, _ => L
  | k + 1, L, j => if j = 0 then L else if lessF (getF L j) (getF L ((j - 1) / 2)) then upF k (swapL L ((j - 1) / 2) j) ((j - 1) / 2) else L

set_option maxRecDepth 100000 in
set_option maxHeartbeats 4000000 in
theorem h_up {F : List Nat} {w0 w : World} {X : Nat} {q : Lq} {v : Value} {L : List Fi} (h : Tl F w0 X q w v L) (j : Nat) (hj : j < L.length) (hl : L.length ≤ 4000000000000) :
    Calls Tryd.prog 56 #[.iface 66 (.pointer (some ⟨X, 7, none⟩)), .int .i64 (j : Int)] w fun e w' => e = .returned (.tuple #[]) ∧ ∃ v', Tl F w0 X q w' v' (upF (j + 1) L j) := by
  have H0 : Hid (Tl F w0 X q w v L) := h
  clear h
  go_enter Tryd.func56, Tryd.ntmps56
  go_wp2_with fail
  go_loopw [1] (fun x wr => ∃ (m k : Nat) (v1 : Value) (L1 : List Fi), x = .int .i64 (m : Int) ∧ m < k ∧ m < L1.length ∧ L1.length ≤ 4000000000000 ∧ Hid (Tl F w0 X q wr v1 L1 ∧ upF k L1 m = upF (j + 1) L j)) (fun x _ => (intOf x).toNat)
  case atStart => exact ⟨j, j + 1, v, L, rfl, by omega, hj, hl, H0.out, rfl⟩
  case round =>
    obtain ⟨m, k, v1, L1, rfl, hk, hm, hL, HJ⟩ := hrel
    obtain ⟨hT, hU⟩ := HJ.out
    obtain ⟨a, c, rfl⟩ := hT.val
    have HT : Hid (Tl F w0 X q wr (.slice a L1.length c) L1) := hT
    have HU : Hid (upF k L1 m = upF (j + 1) L j) := hU
    clear HJ hU
    cases k with
    | zero => omega
    | succ k =>
      rcases Nat.eq_zero_or_pos m with h0 | h0
      · subst h0
        have HR : Hid (upF (j + 1) L j = L1) := by show _ = _; rw [← HU.out, upF, if_pos rfl]
        clear hT
        go_wp2_with fail
        go_end0
        exact ⟨rfl, _, by rw [HR.out]; exact HT.out⟩
      · obtain ⟨p, hp⟩ : ∃ p : Nat, p = (m - 1) / 2 := ⟨_, rfl⟩
        have e1 : ((m : Int) - 1).tdiv 2 = (p : Int) := by rw [Int.tdiv_eq_ediv_of_nonneg (by omega)]; omega
        have n1 : ((p : Int) == (m : Int)) = false := by simp; omega
        have hpl : p < L1.length := by omega
        have ml := m_less hT.c7
        have ms := m_swap hT.c7
        rcases hb : lessF L1[m] L1[p] with _ | _
        · have HR : Hid (upF (j + 1) L j = L1) := by show _ = _; rw [← HU.out, upF, if_neg (by omega), ← hp, getF_eq hm, getF_eq hpl, hb]; rfl
          have HB : Hid (lessF L1[m] L1[p] = false) := hb
          have HP : Hid (p = (m - 1) / 2) := hp
          clear hT hb hp HU ms
          go_wp2_with fail
          refine (t_less HT.out m p hm hpl).mono ?_
          rintro e w5 ⟨rfl, k5⟩
          rw [HB.out]
          have HT5 : Hid (_) := HT.out.same k5
          clear k5 ml
          go_wp2_with fail
          go_end0
          exact ⟨rfl, _, by rw [HR.out]; exact HT5.out⟩
        · have HN : Hid (upF k (swapL L1 p m) p = upF (j + 1) L j) := by show _ = _; rw [← HU.out, upF, if_neg (by omega), ← hp, getF_eq hm, getF_eq hpl, hb]; rfl
          have HB : Hid (lessF L1[m] L1[p] = true) := hb
          have HP : Hid (p = (m - 1) / 2) := hp
          clear hT hb hp HU ms
          go_wp2_with fail
          refine (t_less HT.out m p hm hpl).mono ?_
          rintro e w5 ⟨rfl, k5⟩
          rw [HB.out]
          have h5 := HT.out.same k5
          have HT5 : Hid (_) := h5
          have ms := m_swap h5.c7
          clear k5 ml h5
          go_wp2_with fail
          refine (t_swap HT5.out p m hpl hm).mono ?_
          rintro e w6 ⟨rfl, h6⟩
          have HT6 : Hid (_) := h6
          clear h6 ms
          go_wp2_with fail
          go_roundw
          case rel => exact ⟨p, k, _, _, rfl, by have := HP.out; omega, by rw [swapL_length]; exact hpl, by rw [swapL_length]; exact hL, HT6.out, HN.out⟩
          case measure => have := HP.out; simp [intOf]; omega

/-- Another finding comes. -/
def pushF (L : List Fi) (f : Fi) : List Fi := upF (L.length + 1) (L ++ [f]) L.length

theorem upF_length (k : Nat) : ∀ L j, (upF k L j).length = L.length := by
  induction k with
  | zero => intro L j; rfl
  | succ k ih =>
    intro L j
    rw [upF]
    split
    · rfl
    · split
      · rw [ih, swapL_length]
      · rfl

theorem pushF_length (L : List Fi) (f : Fi) : (pushF L f).length = L.length + 1 := by rw [pushF, upF_length]; simp

set_option maxRecDepth 100000 in
set_option maxHeartbeats 4000000 in
theorem h_push {F : List Nat} {w0 w : World} {X : Nat} {q : Lq} {v : Value} {L : List Fi} (h : Tl F w0 X q w v L) (f : Fi) (hl : L.length < 4000000000000) :
    Calls Tryd.prog 42 #[.iface 66 (.pointer (some ⟨X, 7, none⟩)), .iface 42 f.v] w fun e w' => e = .returned (.tuple #[]) ∧ ∃ v', Tl F w0 X q w' v' (pushF L f) := by
  have H0 : Hid (Tl F w0 X q w v L) := h
  have mp := m_push ⟨X, 7, none⟩ w
  clear h
  go_enter Tryd.func42, Tryd.ntmps42
  go_wp2_with fail
  refine (t_push H0.out f hl).mono ?_
  rintro e w5 ⟨rfl, v5, h5⟩
  obtain ⟨a, c, rfl⟩ := h5.val
  have HT5 : Hid (_) := h5
  have ml := m_len h5.c7
  clear h5 mp
  go_wp2_with fail
  refine (t_len _ _ _ _).mono ?_
  rintro e w6 ⟨rfl, hw6⟩
  have hw7 := hw6.symm
  subst hw7
  have e1 : (((L ++ [f]).length : Nat) : Int) - 1 = (L.length : Int) := by simp
  clear ml
  go_wp2_with fail
  refine (h_up HT5.out L.length (by simp) (by simp; omega)).mono ?_
  rintro e w8 ⟨rfl, v8, h8⟩
  have HT8 : Hid (Tl F w0 X q w8 v8 (pushF L f)) := h8
  clear h8
  go_wp2_with fail
  go_end0
  exact ⟨rfl, _, HT8.out⟩

set_option maxRecDepth 100000 in
set_option maxHeartbeats 4000000 in
theorem t_add {F : List Nat} {w0 w : World} {X : Nat} {q : Lq} {v : Value} {L : List Fi} (h : Tl F w0 X q w v L) (kind num : Int) (name : ByteArray) (hl : L.length < 4000000000000) :
    Calls Tryd.prog 29 #[.pointer (some ⟨X, 7, none⟩), .int .i64 kind, .int .i64 num, .string name] w fun e w' => e = .returned (.tuple #[]) ∧ ∃ v', Tl F w0 X q w' v' (pushF L ⟨kind, num, name⟩) := by
  have H0 : Hid (Tl F w0 X q w v L) := h
  clear h
  go_enter Tryd.func29, Tryd.ntmps29
  go_wp2_with fail
  refine (h_push H0.out ⟨kind, num, name⟩ hl).mono ?_
  rintro e w5 ⟨rfl, v5, h5⟩
  have HT5 : Hid (_) := h5
  clear h5
  go_wp2_with fail
  go_end0
  exact ⟨rfl, _, HT5.out⟩

end Go.Proofs.YtgfdcnjnkljahaaDoor
