/-
  A heap of findings: down, Pop; all in their row.
-/
import Derived.Test.YtgfdcnjnkljahaaDoorXd
namespace Go.Proofs.YtgfdcnjnkljahaaDoor
open Go.RowKit Go.Lib
set_option linter.unusedVariables false

theorem fcs_take (L : List Fi) : ∀ k, fcs (L.take k) = (fcs L).take (k * 3) := by
  induction L with
  | nil => intro k; simp [fcs]
  | cons f L ih =>
    intro k
    cases k with
    | zero => simp [fcs]
    | succ k =>
      rw [List.take_succ_cons, fcs_cons, fcs_cons, ih]
      have e : (k + 1) * 3 = k * 3 + 1 + 1 + 1 := by omega
      rw [e]
      simp [Fi.cs]

theorem Tl.less {F : List Nat} {w0 w : World} {X : Nat} {q : Lq} {g c n : Nat} {L : List Fi} (h : Tl F w0 X q w (.slice (some ⟨g, 0, none⟩) n c) L) (k : Nat) (hk : k ≤ L.length) :
    Tl F w0 X q (w.setCell ⟨X, 7, none⟩ (.slice (some ⟨g, 0, none⟩) k c)) (.slice (some ⟨g, 0, none⟩) k c) (L.take k) := by
  obtain ⟨hX, hg⟩ := h.own g rfl
  refine ⟨h.kept.setCell (Or.inl h.inF) _, h.inF, ?_, ?_, fun k hk => by simp [Value.ownBlock] at hk; subst hk; exact ⟨hX, hg⟩⟩
  · rw [Go.heap_setCell_same w X 7 _ _ _ h.blk]; rfl
  · refine row_far ?_ (fun e => by simp [Value.ownBlock] at e; exact hX e)
    obtain ⟨h1, h2⟩ := h.row
    have hlen : (L.take k).length = k := by simp; omega
    rw [hlen, fcs_take]
    rcases h2 with ⟨h3, h4⟩ | ⟨g', cap, cur, h3, h4, h5, h6, h7, h8, h9⟩
    · cases h3
    · injection h3 with e1 e2 e3
      injection e1 with e1
      injection e1 with e1
      subst e1 e3
      refine ⟨by rw [List.length_take, fcs_length]; omega, Or.inr ⟨g, c, cur, rfl, h4, h5, by omega, h7, h8, ?_⟩⟩
      rw [← h9, List.take_take]
      congr 1
      omega

set_option maxRecDepth 100000 in
set_option maxHeartbeats 4000000 in
theorem t_pop {F : List Nat} {w0 w : World} {X : Nat} {q : Lq} {v : Value} {L : List Fi} (h : Tl F w0 X q w v L) (n : Nat) (hn : L.length = n + 1) (hl : L.length ≤ 4000000000000) :
    Calls Tryd.prog 94 #[.pointer (some ⟨X, 7, none⟩)] w fun e w' => e = .returned (.iface 42 (getF L n).v) ∧ ∃ v', v'.ownBlock = v.ownBlock ∧ Tl F w0 X q w' v' (L.take n) := by
  obtain ⟨a, c, rfl, hc, hs⟩ := h.slice
  obtain ⟨g, rfl, p0, p1, p2, fz⟩ := hs n (by omega)
  rw [← getF_eq (by omega)] at p0 p1 p2
  obtain ⟨f, hf⟩ : ∃ f, f = getF L n := ⟨_, rfl⟩
  rw [← hf] at p0 p1 p2
  rw [← hf]
  obtain ⟨U, B, HU, ku, b1⟩ := one_box w #[.int .i64 f.kind, .int .i64 f.num, .string f.name] 42
  have hT := h.same ku
  have c7 := h.c7
  have z7 := h.frozen 7
  have d0 : U.cell? ⟨B, 0, none⟩ = some (.int .i64 f.kind) := cellB b1
  have d1 : U.cell? ⟨B, 1, none⟩ = some (.int .i64 f.num) := cellB b1
  have d2 : U.cell? ⟨B, 2, none⟩ = some (.string f.name) := cellB b1
  have n1 : ((L.length : Int)) - 1 = (n : Int) := by omega
  have n2 : (n : Int) < (L.length : Int) := by omega
  have n3 : (0 : Int) ≤ (n : Int) := by omega
  have n4 : n ≤ c := by omega
  have u7 := hT.c7
  have y7 := hT.frozen 7
  have HN : Hid (Tl F w0 X q (U.setCell ⟨X, 7, none⟩ (.slice (some ⟨g, 0, none⟩) n c)) (.slice (some ⟨g, 0, none⟩) n c) (L.take n)) := hT.less n (by omega)
  have HXB : Hid (X ≠ B) := by
    have := lt_of_heap h.blk
    rw [← HU.out.2]; show X ≠ w.heap.size; omega
  clear hT hs fz hf h ku b1 hn hc
  go_enter Tryd.func94, Tryd.ntmps94
  go_upto_region 3 with fail
  rw [HU.out.1, HU.out.2]
  clear HU
  clear c7 z7 p0 p1 p2
  have hXB := HXB.out
  have hBX : B ≠ X := fun e => hXB e.symm
  go_wp2
  go_ret
  exact ⟨rfl, .slice (some ⟨g, 0, none⟩) n c, rfl, HN.out⟩

/-- The first goes down, among n. -/
def downF : Nat → List Fi → Nat → Nat → List Fi
  | 0, L, _, _ => L
  | k + 1, L, i, n =>
    if n ≤ 2 * i + 1 then L
    else
      let j := if 2 * i + 2 < n ∧ lessF (getF L (2 * i + 2)) (getF L (2 * i + 1)) = true then 2 * i + 2 else 2 * i + 1
      if lessF (getF L j) (getF L i) then downF k (swapL L i j) j n else L

theorem downF_length (k : Nat) : ∀ L i n, (downF k L i n).length = L.length := by
  induction k with
  | zero => intro L i n; rfl
  | succ k ih =>
    intro L i n
    rw [downF]
    split
    · rfl
    · dsimp only
      generalize (if 2 * i + 2 < n ∧ lessF (getF L (2 * i + 2)) (getF L (2 * i + 1)) = true then 2 * i + 2 else 2 * i + 1) = j
      split
      · rw [ih, swapL_length]
      · rfl

theorem downF_step (k : Nat) (L : List Fi) (i j n : Nat) (h1 : ¬ n ≤ 2 * i + 1) (hj : j = if 2 * i + 2 < n ∧ lessF (getF L (2 * i + 2)) (getF L (2 * i + 1)) = true then 2 * i + 2 else 2 * i + 1) :
    downF (k + 1) L i n = if lessF (getF L j) (getF L i) then downF k (swapL L i j) j n else L := by
  rw [downF, if_neg h1, ← hj]

theorem t_lessX {F : List Nat} {w0 w : World} {X : Nat} {q : Lq} {a : Option Addr} {n c : Nat} {L : List Fi} (h : Tl F w0 X q w (.slice a n c) L) (hn : n = L.length) (i j : Nat) (x y : Int) (hx : x = (i : Int)) (hy : y = (j : Int)) (hi : i < L.length) (hj : j < L.length) :
    Calls Tryd.prog 85 #[.slice a n c, .int .i64 x, .int .i64 y] w fun e w' => e = .returned (.bool (lessF L[i] L[j])) ∧ Kept [] w w' := by
  subst hx hy hn; exact t_less h i j hi hj

theorem t_swapX {F : List Nat} {w0 w : World} {X : Nat} {q : Lq} {a : Option Addr} {n c : Nat} {L : List Fi} (h : Tl F w0 X q w (.slice a n c) L) (hn : n = L.length) (i j : Nat) (x y : Int) (hx : x = (i : Int)) (hy : y = (j : Int)) (hi : i < L.length) (hj : j < L.length) :
    Calls Tryd.prog 86 #[.slice a n c, .int .i64 x, .int .i64 y] w fun e w' => e = .returned (.tuple #[]) ∧ Tl F w0 X q w' (.slice a n c) (swapL L i j) := by
  subst hx hy hn; exact t_swap h i j hi hj

/-- Some Boolean is answered. -/
def IsB (e : Ending) : Prop := ∃ b, e = .returned (.bool b)

set_option maxRecDepth 100000 in
set_option maxHeartbeats 8000000 in
theorem h_down {F : List Nat} {w0 w : World} {X : Nat} {q : Lq} {v : Value} {L : List Fi} (h : Tl F w0 X q w v L) (n : Nat) (hn : n ≤ L.length) (hl : L.length ≤ 4000000000000) :
    Calls Tryd.prog 47 #[.iface 66 (.pointer (some ⟨X, 7, none⟩)), .int .i64 0, .int .i64 (n : Int)] w fun e w' => IsB e ∧ Tl F w0 X q w' v (downF (n + 1) L 0 n) := by
  obtain ⟨a, c, rfl⟩ := h.val
  have H0 : Hid (Tl F w0 X q w (.slice a L.length c) L) := h
  clear h
  go_enter Tryd.func47, Tryd.ntmps47
  go_wp2_with fail
  go_loopw [7] (fun x wr => ∃ (i k : Nat) (L1 : List Fi), x = .int .i64 (i : Int) ∧ n - i < k ∧ i ≤ n ∧ L1.length = L.length ∧ Hid (Tl F w0 X q wr (.slice a L.length c) L1 ∧ downF k L1 i n = downF (n + 1) L 0 n)) (fun x _ => (n - intOf x).toNat)
  case atStart => exact ⟨0, n + 1, L, rfl, by omega, by omega, rfl, H0.out, rfl⟩
  case round =>
    obtain ⟨i, k, L1, rfl, hk, hi, hL, HJ⟩ := hrel
    obtain ⟨hT, hU⟩ := HJ.out
    have HL : Hid (L1.length = L.length) := hL
    have HT : Hid (Tl F w0 X q wr (.slice a L.length c) L1) := hT
    have HU : Hid (downF k L1 i n = downF (n + 1) L 0 n) := hU
    clear HJ hU hL
    cases k with
    | zero => omega
    | succ k =>
      by_cases h1 : n ≤ 2 * i + 1
      · have HR : Hid (downF (n + 1) L 0 n = L1) := by show _ = _; rw [← HU.out, downF, if_pos h1]
        have g1 : (n : Int) ≤ 2 * (i : Int) + 1 := by omega
        clear hT h1
        go_wp2_with fail
        go_ret
        exact ⟨⟨_, rfl⟩, by rw [HR.out]; exact HT.out⟩
      · have g1 : ¬ (n : Int) ≤ 2 * (i : Int) + 1 := by omega
        have g2 : ¬ 2 * (i : Int) + 1 < 0 := by omega
        by_cases h2 : 2 * i + 2 < n
        · have g3 : 2 * (i : Int) + 1 + 1 < (n : Int) := by omega
          have l2 : 2 * i + 2 < L1.length := by have := HL.out; omega
          have l1 : 2 * i + 1 < L1.length := by have := HL.out; omega
          have ml := m_less hT.c7
          rcases hb : lessF L1[2 * i + 2] L1[2 * i + 1] with _ | _
          · have HB1 : Hid (lessF L1[2 * i + 2] L1[2 * i + 1] = false) := hb
            have HJ : Hid (2 * i + 1 = if 2 * i + 2 < n ∧ lessF (getF L1 (2 * i + 2)) (getF L1 (2 * i + 1)) = true then 2 * i + 2 else 2 * i + 1) := by
              show _ = _; rw [getF_eq l2, getF_eq l1, hb, if_neg (by simp)]
            clear hb hT
            go_wp2_with fail
            refine (t_lessX HT.out HL.out.symm (2 * i + 2) (2 * i + 1) _ _ (by omega) (by omega) l2 l1).mono ?_
            rintro e w5 ⟨rfl, k5⟩
            rw [HB1.out]
            have HT5 : Hid (_) := HT.out.same k5
            clear k5 ml HB1
            have hjl : 2 * i + 1 < L1.length := by have := HL.out; omega
            have hil : i < L1.length := by have := HL.out; omega
            have ml5 := m_less HT5.out.c7
            rcases hb : lessF L1[2 * i + 1] L1[i] with _ | _
            · have HR : Hid (downF (n + 1) L 0 n = L1) := by show _ = _; rw [← HU.out, downF_step k L1 i (2 * i + 1) n h1 HJ.out, getF_eq hjl, getF_eq hil, hb]; rfl
              have HB : Hid (_ = false) := hb
              clear hb HU h1
              go_wp2_with fail
              refine (t_lessX HT5.out HL.out.symm (2 * i + 1) i _ _ (by omega) (by omega) hjl hil).mono ?_
              rintro e w6 ⟨rfl, k6⟩
              rw [HB.out]
              have HT6 : Hid (_) := HT5.out.same k6
              clear k6 ml5
              go_wp2_with fail
              go_ret
              exact ⟨⟨_, rfl⟩, by rw [HR.out]; exact HT6.out⟩
            · have HN : Hid (downF k (swapL L1 i (2 * i + 1)) (2 * i + 1) n = downF (n + 1) L 0 n) := by show _ = _; rw [← HU.out, downF_step k L1 i (2 * i + 1) n h1 HJ.out, getF_eq hjl, getF_eq hil, hb]; rfl
              have HB : Hid (_ = true) := hb
              clear hb HU h1
              go_wp2_with fail
              refine (t_lessX HT5.out HL.out.symm (2 * i + 1) i _ _ (by omega) (by omega) hjl hil).mono ?_
              rintro e w6 ⟨rfl, k6⟩
              rw [HB.out]
              have h6 := HT5.out.same k6
              have HT6 : Hid (_) := h6
              have ms := m_swap h6.c7
              clear k6 ml5 h6
              go_wp2_with fail
              refine (t_swapX HT6.out HL.out.symm i (2 * i + 1) _ _ (by omega) (by omega) hil hjl).mono ?_
              rintro e w7 ⟨rfl, h7⟩
              have HT7 : Hid (_) := h7
              clear h7 ms
              go_wp2_with fail
              go_roundw
              case rel => exact ⟨2 * i + 1, k, _, by go_num, by omega, by omega, by rw [swapL_length]; exact HL.out, HT7.out, HN.out⟩
              case measure => simp [intOf]; omega
          · have HB1 : Hid (lessF L1[2 * i + 2] L1[2 * i + 1] = true) := hb
            have HJ : Hid (2 * i + 2 = if 2 * i + 2 < n ∧ lessF (getF L1 (2 * i + 2)) (getF L1 (2 * i + 1)) = true then 2 * i + 2 else 2 * i + 1) := by
              show _ = _; rw [getF_eq l2, getF_eq l1, hb, if_pos ⟨h2, rfl⟩]
            clear hb hT
            go_wp2_with fail
            refine (t_lessX HT.out HL.out.symm (2 * i + 2) (2 * i + 1) _ _ (by omega) (by omega) l2 l1).mono ?_
            rintro e w5 ⟨rfl, k5⟩
            rw [HB1.out]
            have HT5 : Hid (_) := HT.out.same k5
            clear k5 ml HB1
            have hjl : 2 * i + 2 < L1.length := by have := HL.out; omega
            have hil : i < L1.length := by have := HL.out; omega
            have ml5 := m_less HT5.out.c7
            rcases hb : lessF L1[2 * i + 2] L1[i] with _ | _
            · have HR : Hid (downF (n + 1) L 0 n = L1) := by show _ = _; rw [← HU.out, downF_step k L1 i (2 * i + 2) n h1 HJ.out, getF_eq hjl, getF_eq hil, hb]; rfl
              have HB : Hid (_ = false) := hb
              clear hb HU h1
              go_wp2_with fail
              refine (t_lessX HT5.out HL.out.symm (2 * i + 2) i _ _ (by omega) (by omega) hjl hil).mono ?_
              rintro e w6 ⟨rfl, k6⟩
              rw [HB.out]
              have HT6 : Hid (_) := HT5.out.same k6
              clear k6 ml5
              go_wp2_with fail
              go_ret
              exact ⟨⟨_, rfl⟩, by rw [HR.out]; exact HT6.out⟩
            · have HN : Hid (downF k (swapL L1 i (2 * i + 2)) (2 * i + 2) n = downF (n + 1) L 0 n) := by show _ = _; rw [← HU.out, downF_step k L1 i (2 * i + 2) n h1 HJ.out, getF_eq hjl, getF_eq hil, hb]; rfl
              have HB : Hid (_ = true) := hb
              clear hb HU h1
              go_wp2_with fail
              refine (t_lessX HT5.out HL.out.symm (2 * i + 2) i _ _ (by omega) (by omega) hjl hil).mono ?_
              rintro e w6 ⟨rfl, k6⟩
              rw [HB.out]
              have h6 := HT5.out.same k6
              have HT6 : Hid (_) := h6
              have ms := m_swap h6.c7
              clear k6 ml5 h6
              go_wp2_with fail
              refine (t_swapX HT6.out HL.out.symm i (2 * i + 2) _ _ (by omega) (by omega) hil hjl).mono ?_
              rintro e w7 ⟨rfl, h7⟩
              have HT7 : Hid (_) := h7
              clear h7 ms
              go_wp2_with fail
              go_roundw
              case rel => exact ⟨2 * i + 2, k, _, by go_num, by omega, by omega, by rw [swapL_length]; exact HL.out, HT7.out, HN.out⟩
              case measure => simp [intOf]; omega
        · have g3 : ¬ 2 * (i : Int) + 1 + 1 < (n : Int) := by omega
          have HJ : Hid (2 * i + 1 = if 2 * i + 2 < n ∧ lessF (getF L1 (2 * i + 2)) (getF L1 (2 * i + 1)) = true then 2 * i + 2 else 2 * i + 1) := by
            show _ = _; rw [if_neg (fun h => h2 h.1)]
          have HT5 : Hid (_) := HT.out
          clear hT
          have hjl : 2 * i + 1 < L1.length := by have := HL.out; omega
          have hil : i < L1.length := by have := HL.out; omega
          have ml5 := m_less HT5.out.c7
          rcases hb : lessF L1[2 * i + 1] L1[i] with _ | _
          · have HR : Hid (downF (n + 1) L 0 n = L1) := by show _ = _; rw [← HU.out, downF_step k L1 i (2 * i + 1) n h1 HJ.out, getF_eq hjl, getF_eq hil, hb]; rfl
            have HB : Hid (_ = false) := hb
            clear hb HU h1
            go_wp2_with fail
            refine (t_lessX HT5.out HL.out.symm (2 * i + 1) i _ _ (by omega) (by omega) hjl hil).mono ?_
            rintro e w6 ⟨rfl, k6⟩
            rw [HB.out]
            have HT6 : Hid (_) := HT5.out.same k6
            clear k6 ml5
            go_wp2_with fail
            go_ret
            exact ⟨⟨_, rfl⟩, by rw [HR.out]; exact HT6.out⟩
          · have HN : Hid (downF k (swapL L1 i (2 * i + 1)) (2 * i + 1) n = downF (n + 1) L 0 n) := by show _ = _; rw [← HU.out, downF_step k L1 i (2 * i + 1) n h1 HJ.out, getF_eq hjl, getF_eq hil, hb]; rfl
            have HB : Hid (_ = true) := hb
            clear hb HU h1
            go_wp2_with fail
            refine (t_lessX HT5.out HL.out.symm (2 * i + 1) i _ _ (by omega) (by omega) hjl hil).mono ?_
            rintro e w6 ⟨rfl, k6⟩
            rw [HB.out]
            have h6 := HT5.out.same k6
            have HT6 : Hid (_) := h6
            have ms := m_swap h6.c7
            clear k6 ml5 h6
            go_wp2_with fail
            refine (t_swapX HT6.out HL.out.symm i (2 * i + 1) _ _ (by omega) (by omega) hil hjl).mono ?_
            rintro e w7 ⟨rfl, h7⟩
            have HT7 : Hid (_) := h7
            clear h7 ms
            go_wp2_with fail
            go_roundw
            case rel => exact ⟨2 * i + 1, k, _, by go_num, by omega, by omega, by rw [swapL_length]; exact HL.out, HT7.out, HN.out⟩
            case measure => simp [intOf]; omega

end Go.Proofs.YtgfdcnjnkljahaaDoor
