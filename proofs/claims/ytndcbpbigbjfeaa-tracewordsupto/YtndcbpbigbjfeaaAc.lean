/-
  Accesses: rows of the call's own, copies, lent ones; same ints, same accesses; Meet.
-/
import Derived.Test.YtndcbpbigbjfeaaPl
import Derived.Test.YtndcbpbigbjfeaaSh
namespace Go.Proofs.Ytndcbpbigbjfeaa
open Go.RowKit
set_option linter.unusedSimpArgs false
set_option linter.unusedVariables false

theorem infoA : (Try.prog.info? 35).map (fun i => (i.zero, i.size, i.bytes)) = some (some (.agg #[.int .i64 0, .bool false]), 2, 16) := by kernel_rfl

def acc (t : List (Int × Bool)) : List Value := t.flatMap fun x => [.int .i64 x.1, .bool x.2]

theorem acc_length (t : List (Int × Bool)) : (acc t).length = t.length * 2 := by
  unfold acc
  induction t with
  | nil => rfl
  | cons x t ih => simp only [List.flatMap_cons, List.length_append, List.length_cons, List.length_nil] at *; omega

theorem acc_append (s t : List (Int × Bool)) : acc (s ++ t) = acc s ++ acc t := by simp [acc]

theorem acc_get (t : List (Int × Bool)) : ∀ i x, t[i]? = some x → (acc t)[i * 2]? = some (.int .i64 x.1) ∧ (acc t)[i * 2 + 1]? = some (.bool x.2) := by
  induction t with
  | nil => intro i x h; simp at h
  | cons y t ih =>
    intro i x h
    cases i with
    | zero => simp at h; subst h; simp [acc]
    | succ i =>
      have := ih i x (by simpa using h)
      have e : acc (y :: t) = .int .i64 y.1 :: .bool y.2 :: acc t := by simp [acc]
      rw [e, show (i + 1) * 2 = i * 2 + 1 + 1 by omega]
      simpa using this

theorem acc_oneCell (t : List (Int × Bool)) : ∀ u ∈ acc t, u.oneCell' = true := by
  intro u hu
  simp only [acc, List.mem_flatMap] at hu
  obtain ⟨a, _, hu⟩ := hu
  simp at hu
  rcases hu with rfl | rfl <;> rfl

/-- Cell j of the accesses is one half of access j / 2. -/
theorem acc_half {t : List (Int × Bool)} {j : Nat} {u : Value} (h : (acc t)[j]? = some u) : ∃ p q, t[j / 2]? = some (p, q) ∧ ((j % 2 = 0 ∧ u = .int .i64 p) ∨ (j % 2 = 1 ∧ u = .bool q)) := by
  have hl : j < t.length * 2 := by rw [← acc_length]; exact (List.getElem?_eq_some_iff.1 h).1
  have hi : j / 2 < t.length := by omega
  obtain ⟨⟨p, q⟩, hx⟩ : ∃ x, t[j / 2]? = some x := ⟨t[j / 2], by simp [hi]⟩
  obtain ⟨h1, h2⟩ := acc_get t _ _ hx
  rcases Nat.mod_two_eq_zero_or_one j with hm | hm
  · rw [show j / 2 * 2 = j from by omega, h] at h1
    exact ⟨p, q, hx, Or.inl ⟨hm, Option.some.inj h1⟩⟩
  · rw [show j / 2 * 2 + 1 = j from by omega, h] at h2
    exact ⟨p, q, hx, Or.inr ⟨hm, Option.some.inj h2⟩⟩

/-- A row of accesses of the call's own. -/
def OwnA (w : World) (H : Nat) (v : Value) (X : List (Int × Bool)) : Prop := w.ownsRow H 35 2 v X.length (acc X)

theorem OwnA.still {w w' : World} {H : Nat} {v : Value} {X : List (Int × Bool)} (h : OwnA w H v X) (k : Still w w') : OwnA w' H v X := by
  refine ⟨h.1, ?_⟩
  rcases h.2 with hn | ⟨g, cap, cur, rfl, hb, hgg, rest⟩
  · exact .inl hn
  · exact .inr ⟨g, cap, cur, rfl, hb, by rw [k.block g (lt_of_heap hgg)]; exact hgg, rest⟩

theorem OwnA.al {w : World} {H : Nat} {v : Value} {X : List (Int × Bool)} (h : OwnA w H v X) : ∃ a cap, v = .slice a X.length cap ∧ X.length ≤ cap ∧ Al w a X := by
  rcases h.2 with ⟨h1, h2⟩ | ⟨g, cap, cur, h1, h2, h3, h4, h5, h6, h7⟩
  · have e : X = [] := List.eq_nil_of_length_eq_zero h2
    subst e
    exact ⟨none, 0, h1, Nat.le_refl _, fun i p q hi => by simp at hi⟩
  · refine ⟨_, cap, h1, h4, fun i p q hi => ⟨g, 0, rfl, ?_⟩⟩
    have hl : i < X.length := (List.getElem?_eq_some_iff.1 hi).1
    have cell : ∀ j u, j < X.length * 2 → (acc X)[j]? = some u → w.cell? ⟨g, j, none⟩ = some u := fun j u hj hu => by
      rw [← h7, List.getElem?_take_of_lt hj] at hu
      have : cur[j]? = some u := by simpa using hu
      simp [World.cell?, h3, this]
    obtain ⟨e1, e2⟩ := acc_get X i _ hi
    rw [Nat.zero_add]
    exact ⟨cell _ _ (by omega) e1, cell _ _ (by omega) e2⟩

/-- An append of a slice's accesses. -/
theorem append_acc {w : World} {H : Nat} {v : Value} {X Y : List (Int × Bool)} {a : Option Addr} {c : Nat} (h : OwnA w H v X) (hu : Al w a Y) (hH : H ≤ w.heap.size) (hb : (X.length + Y.length) * 16 ≤ 140737488355328) (ty : TypeId) :
    ∃ v' w', (Builtin.append_ #[22, 22] ty #[v, .slice a Y.length c]).run Try.prog w = .ok v' w' ∧ OwnA w' H v' (X ++ Y) ∧ w.grownBy w' v.ownBlock ∧ ∀ k, v'.ownBlock = some k → H ≤ k := by
  obtain ⟨i0, hi, hz0, hz1, hz2⟩ := info_parts infoA
  by_cases h0 : Y = []
  · subst h0
    refine ⟨v, w, ?_, by simpa using h, ⟨rfl, rfl, rfl, Nat.le_refl _, fun _ _ _ => rfl⟩, fun k hk => (World.ownsRow.lt h k hk).1⟩
    have h3 : i0.size = 2 := hz1
    rcases h.2 with ⟨rfl, -⟩ | ⟨g, cap, cur, rfl, h2, -, h4, -⟩
    · cases a <;> simp [Builtin.append_, run_underlying Try.underlying22, sizeOf, typeInfo, hi, Builtin.lenOf, Builtin.firstCells, storeCells, loadCells, loadCellsFrom]
    · cases a <;> simp [Builtin.append_, run_underlying Try.underlying22, sizeOf, typeInfo, hi, Builtin.lenOf, Builtin.firstCells, storeCells, loadCells, loadCellsFrom, h4]
  · obtain ⟨⟨p0, q0⟩, hx0⟩ : ∃ x, Y[0]? = some x := ⟨Y[0]'(List.length_pos_iff.2 h0), by simp [List.length_pos_iff.2 h0]⟩
    obtain ⟨b, off, rfl, -⟩ := hu 0 p0 q0 hx0
    obtain ⟨v', w', hr, h2, h3, _, h5⟩ := run_append_own_at (P := Try.prog) w H 22 ty 35 i0 (.agg #[.int .i64 0, .bool false]) 2 16 Try.underlying22 hi hz0 hz1 hz2 rfl (by omega) v X.length (acc X) h ⟨b, off, none⟩ Y.length c (acc Y) (acc_length Y)
      (fun j u hj => by
        obtain ⟨p, q, hx, hh⟩ := acc_half hj
        obtain ⟨b', off', e, c1, c2⟩ := hu _ p q hx
        simp only [Option.some.injEq, Addr.mk.injEq, and_true] at e
        obtain ⟨rfl, rfl⟩ := e
        rw [show (⟨b, off, none⟩ : Addr).add j = ⟨b, off + j, none⟩ from by unfold Addr.add; split <;> simp_all]
        rcases hh with ⟨hm, rfl⟩ | ⟨hm, rfl⟩
        · rw [show off + j = off + j / 2 * 2 from by omega]; exact c1
        · rw [show off + j = off + j / 2 * 2 + 1 from by omega]; exact c2)
      (acc_oneCell Y) (by unfold maxLen; omega) hb hH
    refine ⟨v', w', hr, ?_, h3, fun k hk => (World.ownsRow.lt h2 k hk).1⟩
    unfold OwnA
    rw [List.length_append, acc_append]
    exact h2

theorem Al.head {w : World} {a : Option Addr} {X Y : List (Int × Bool)} (h : Al w a (X ++ Y)) : Al w a X := fun i p q hi =>
  h i p q (by rw [List.getElem?_append_left (List.getElem?_eq_some_iff.1 hi).1]; exact hi)

theorem buildA0 (w : World) : (Instr.buildSlice 22 0 #[]).run Try.prog w = .ok (.slice (some ⟨w.heap.size, 0, none⟩) 0 0) (w.alloc (.cells #[] 35)) := by kernel_rfl

theorem ownA_made (w : World) (H : Nat) (hH : H ≤ w.heap.size) : OwnA (w.alloc (.cells #[] 35)) H (.slice (some ⟨w.heap.size, 0, none⟩) 0 0) [] := World.ownsRow_made w #[] 0 hH (by unfold maxLen; omega) (by simp)

set_option maxRecDepth 100000 in
theorem p_copy {w : World} {a : Option Addr} {c : Nat} {X : List (Int × Bool)} (h : Al w a X) (hn : X.length * 16 ≤ 140737488355328) :
    Calls Try.prog 19 #[.slice a X.length c] w fun e w' => ∃ v, e = .returned v ∧ OwnA w' w.heap.size v X ∧ Still w w' := by
  have hb0 := buildA0
  have hS0 : Still w (w.alloc (.cells #[] 35)) := (Below.refl _ _).alloc (Nat.le_refl _) _
  obtain ⟨v', w', hr, h1, h2, -⟩ := append_acc (c := c) (ownA_made w w.heap.size (Nat.le_refl _)) (h.still hS0) (by simp) (by simpa using hn) 22
  have HF : Hid (OwnA w' w.heap.size v' X ∧ Still w w') := ⟨by simpa using h1, hS0.grown h2 (by simp) (fun k hk => by simp [Value.ownBlock] at hk; omega)⟩
  clear h1 h2 h
  go_enter Try.func19, Try.ntmps19
  go_wp2_with (first
    | (at_builtin; refine wpList_append_run _ (by rfl) _ _ 22 22 (by rfl) _ _ (by rfl) (by rfl) _ _ hr ?_))
  go_ret
  exact ⟨_, rfl, HF.out⟩

def twin : List (Int × Bool) := [(77777, false), (77777, false)]

set_option maxRecDepth 100000 in
theorem p_lend {w : World} {a : Option Addr} {c : Nat} {X : List (Int × Bool)} (h : Al w a X) (hn : (X.length + 2) * 16 ≤ 140737488355328) :
    Calls Try.prog 6 #[.slice a X.length c] w fun e w' => ∃ g cap, e = .returned (.slice (some ⟨g, 0, none⟩) X.length cap) ∧ X.length + 2 ≤ cap ∧ OwnA w' w.heap.size (.slice (some ⟨g, 0, none⟩) (X.length + 2) cap) (X ++ twin) ∧ Still w w' := by
  go_enter Try.func6, Try.ntmps6
  go_wp2_with fail
  refine (p_copy (c := c) h (by omega)).mono ?_
  rintro e w1 ⟨v, rfl, ho, hs⟩
  have hS0 : Still w1 (w1.alloc (.cells #[.int .i64 77777, .bool false, .int .i64 77777, .bool false] 35)) := (Below.refl _ _).alloc (Nat.le_refl _) _
  have hA : Al (w1.alloc (.cells #[.int .i64 77777, .bool false, .int .i64 77777, .bool false] 35)) (some ⟨w1.heap.size, 0, none⟩) twin := fun i p q hi => by
    have hb := heap_alloc_new w1 (.cells #[.int .i64 77777, .bool false, .int .i64 77777, .bool false] 35)
    have hl := (List.getElem?_eq_some_iff.1 hi).1
    refine ⟨_, _, rfl, ?_⟩
    rcases i with _ | _ | i
    · simp [twin] at hi; obtain ⟨rfl, rfl⟩ := hi; simp only [World.cell?, hb]; exact ⟨rfl, rfl⟩
    · simp [twin] at hi; obtain ⟨rfl, rfl⟩ := hi; simp only [World.cell?, hb]; exact ⟨rfl, rfl⟩
    · simp [twin] at hl; omega
  obtain ⟨v', w2, hr, h1, h2, h3⟩ := append_acc (Y := twin) (c := 2) (ho.still hS0) hA (by have := hs.size; simp; omega) hn 22
  have hr' : (Builtin.append_ #[22, 22] 22 #[v, .slice (some ⟨w1.heap.size, 0, none⟩) 2 2]).run Try.prog (w1.alloc (.cells #[.int .i64 77777, .bool false, .int .i64 77777, .bool false] 35)) = .ok v' w2 := hr
  obtain ⟨g, cap, hv, hcap⟩ : ∃ g cap, v' = .slice (some ⟨g, 0, none⟩) (X.length + 2) cap ∧ X.length + 2 ≤ cap := by
    have hl : (X ++ twin).length = X.length + 2 := by simp [twin]
    rcases h1.2 with ⟨-, e2⟩ | ⟨g, cap, cur, e1, -, -, e4, -⟩
    · omega
    · rw [hl] at e1 e4; exact ⟨g, cap, e1, e4⟩
  subst hv
  have HF : Hid (OwnA w2 w.heap.size (.slice (some ⟨g, 0, none⟩) (X.length + 2) cap) (X ++ twin) ∧ Still w w2) := ⟨h1, (hs.then hS0).grown h2 (by have := hs.size; simp; omega) (fun k hk => (World.ownsRow.lt ho k hk).1)⟩
  have c1 : (X.length : Int) ≤ (cap : Int) := by omega
  have c0 : (0 : Int) ≤ (X.length : Int) := by omega
  clear ho hs hS0 hA hr h1 h2 h3 h
  go_wp2_with (first
    | (at_builtin; refine wpList_append_run _ (by rfl) _ _ 22 22 (by rfl) _ _ (by rfl) (by rfl) _ _ hr' ?_))
  go_ret
  exact ⟨_, _, rfl, hcap, HF.out⟩

set_option maxRecDepth 100000 in
set_option maxHeartbeats 1000000 in
theorem p_sameA {w : World} {a b : Option Addr} {c d : Nat} {X : List (Int × Bool)} (h : Al w a X) (k : Al w b X) (hn : X.length * 16 ≤ 140737488355328) :
    Calls Try.prog 24 #[.slice a X.length c, .slice b X.length d] w fun e w' => e = .returned (.bool true) ∧ Still w w' := by
  have t1 : ((X.length : Int) != (X.length : Int)) = false := by simp
  have HH : Hid (_ ∧ _) := ⟨h, k⟩
  clear h k
  go_enter Try.func24, Try.ntmps24
  go_wp2_with fail
  go_loopw [5] (fun i wr => ∃ k : Nat, k ≤ X.length ∧ i = .int .i64 (k : Int) ∧ Hid (Still w wr)) (fun i _ => (X.length - intOf i).toNat)
  case atStart => exact ⟨0, by omega, rfl, Below.refl _ _⟩
  case round =>
    obtain ⟨k, hk, rfl, HK⟩ := hrel
    by_cases hlt : k < X.length
    · have k0 : (0 : Int) ≤ (k : Int) := by omega
      have k1 : (k : Int) < (X.length : Int) := by omega
      obtain ⟨⟨p, q⟩, hx⟩ : ∃ x, X[k]? = some x := ⟨X[k], by simp⟩
      obtain ⟨b1, o1, rfl, x0, x1⟩ := (HH.out.1.still HK.out) k p q hx
      obtain ⟨b2, o2, rfl, y0, y1⟩ := (HH.out.2.still HK.out) k p q hx
      clear hx
      go_wp2_with fail
      go_quiet (fail)
      go_wp2
      go_roundw
      case rel => exact ⟨k + 1, by omega, by go_num, Below.drewN HK.out nq⟩
      case measure => simp [intOf]; omega
    · have k1 : ¬ (k : Int) < (X.length : Int) := by omega
      go_wp2
      go_ret
      exact ⟨rfl, HK.out⟩

set_option maxRecDepth 100000 in
set_option maxHeartbeats 1000000 in
theorem p_same {w : World} {u v : Value} {X : List Int} (h : Rd w u X) (k : Rd w v X) (hn : X.length * 16 ≤ 140737488355328) :
    Calls Try.prog 11 #[u, v] w fun e w' => e = .returned (.bool true) ∧ Still w w' := by
  obtain ⟨a, c, rfl, -, h1⟩ := h
  obtain ⟨b, d, rfl, -, h2⟩ := k
  have t1 : ((X.length : Int) != (X.length : Int)) = false := by simp
  have HH : Hid (_ ∧ _) := ⟨h1, h2⟩
  clear h1 h2
  go_enter Try.func11, Try.ntmps11
  go_wp2_with fail
  go_loopw [5] (fun i wr => ∃ k : Nat, k ≤ X.length ∧ i = .int .i64 (k : Int) ∧ Hid (Still w wr)) (fun i _ => (X.length - intOf i).toNat)
  case atStart => exact ⟨0, by omega, rfl, Below.refl _ _⟩
  case round =>
    obtain ⟨k, hk, rfl, HK⟩ := hrel
    by_cases hlt : k < X.length
    · have k0 : (0 : Int) ≤ (k : Int) := by omega
      have k1 : (k : Int) < (X.length : Int) := by omega
      obtain ⟨b1, o1, rfl, x0⟩ := (HH.out.1.still HK.out) k hlt
      obtain ⟨b2, o2, rfl, y0⟩ := (HH.out.2.still HK.out) k hlt
      generalize X.getD k 0 = z at x0 y0
      go_wp2_with fail
      go_quiet (fail)
      go_wp2
      go_roundw
      case rel => exact ⟨k + 1, by omega, by go_num, Below.drewN HK.out nq⟩
      case measure => simp [intOf]; omega
    · have k1 : ¬ (k : Int) < (X.length : Int) := by omega
      go_wp2
      go_ret
      exact ⟨rfl, HK.out⟩

set_option maxRecDepth 100000 in
theorem p_num (w : World) : Calls Try.prog 18 #[.int .i64 0] w fun e w' => e = .returned (.int .i64 0) ∧ w' = w := by
  go_enter Try.func18, Try.ntmps18
  go_wp2
  go_ret
  exact ⟨rfl, rfl⟩

end Go.Proofs.Ytndcbpbigbjfeaa
