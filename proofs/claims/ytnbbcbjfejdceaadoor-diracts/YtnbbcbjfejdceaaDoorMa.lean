/-
  The law's own list of entries: which text is ahead of which, the place of a name, whether a bucket is full.
-/
import Derived.Test.YtnbbcbjfejdceaaDoorOt
import Derived.BigQuiet
namespace Go.Proofs.YtnbbcbjfejdceaaDoor
open Go.RowKit
set_option linter.unusedVariables false

theorem byte_list {a : ByteArray} {i : Nat} (h : i < a.size) : ∃ h' : i < a.toList.length, (a.toList[i]'h').toNat = (a[i]'h).toNat := by
  have e : a.toList = a.data.toList := ByteArray.toList_eq ..
  have hl : i < a.data.toList.length := by simpa using h
  refine ⟨by rw [e]; exact hl, ?_⟩
  congr 1
  have : a.toList[i]? = a.data.toList[i]? := by rw [e]
  rw [List.getElem?_eq_getElem (by rw [e]; exact hl), List.getElem?_eq_getElem hl] at this
  have h2 := Option.some.inj this
  rw [h2]
  rfl

theorem toList_len (a : ByteArray) : a.toList.length = a.size := by rw [ByteArray.toList_eq]; simp

set_option maxHeartbeats 2000000 in
/-- The reference's Below. -/
theorem f_below (a b : ByteArray) (w : World) (ha : a.size ≤ 12) (hb : b.size ≤ 12) :
    Calls Tryd.prog 59 #[.string a, .string b] w fun e w' => e = .returned (.bool (below a b)) ∧ ∃ m, w' = w.drewN m := by
  go_enter Tryd.func59, Tryd.ntmps59
  go_wp2_with fail
  go_loopw [5] (fun i wr => ∃ j m : Nat, i = .int .i64 (j : Int) ∧ j ≤ 12 ∧ j ≤ a.size ∧ Hid (wr = w.drewN m ∧ lx (a.toList.drop j) (b.toList.drop j) = below a b)) (fun i _ => (12 - intOf i).toNat)
  case atStart => exact ⟨0, 0, rfl, by omega, by omega, rfl, rfl⟩
  case round =>
    obtain ⟨j, m, rfl, hj, hja, HJ⟩ := hrel
    by_cases h1 : j < a.size ∧ j < b.size
    · obtain ⟨h1, h2⟩ := h1
      have i0 : (0 : Int) ≤ (j : Int) := by omega
      have i1 : (j : Int) < (a.size : Int) := by omega
      have i2 : (j : Int) < (b.size : Int) := by omega
      obtain ⟨p1, q1⟩ := byte_list h1
      obtain ⟨p2, q2⟩ := byte_list h2
      obtain ⟨x, hx⟩ : ∃ x, (a[j]'h1).toNat = x := ⟨_, rfl⟩
      obtain ⟨y, hy⟩ : ∃ y, (b[j]'h2).toNat = y := ⟨_, rfl⟩
      by_cases hxy : x = y
      · have H2 : Hid (lx (a.toList.drop (j + 1)) (b.toList.drop (j + 1)) = below a b) := by
          have := lx_drop_eq p1 p2 (by rw [q1, q2, hx, hy, hxy])
          rw [HJ.out.2] at this
          exact this.symm
        have t0 : (((a[j]'h1).toNat : Int) == ((b[j]'h2).toNat : Int)) = true := by rw [hx, hy, hxy]; simp
        have t1 : (((a[j]'h1).toNat : Int) != ((b[j]'h2).toNat : Int)) = false := by rw [hx, hy, hxy]; simp
        have t2 : (a[j]'h1).toNat = (b[j]'h2).toNat := by rw [hx, hy, hxy]
        have hw : Hid (_) := HJ.out.1
        clear q1 q2 hx hy HJ
        go_wp2_with fail
        go_quiet (fail)
        go_wp2
        go_roundw
        case rel => exact ⟨j + 1, m + nq, by go_num, by omega, by omega, by rw [hw.out, World.drewN_drewN], H2.out⟩
        case measure => simp [intOf]; omega
      · have hne : (a.toList[j]'p1).toNat ≠ (b.toList[j]'p2).toNat := by rw [q1, q2, hx, hy]; exact hxy
        have H2 : Hid (decide (((a[j]'h1).toNat : Int) < ((b[j]'h2).toNat : Int)) = below a b) := by
          have := lx_drop_lt p1 p2 hne
          rw [HJ.out.2, q1, q2] at this
          rw [Hid, this]
          simp
        have t0 : (((a[j]'h1).toNat : Int) == ((b[j]'h2).toNat : Int)) = false := by rw [hx, hy]; simp; omega
        have t1 : (((a[j]'h1).toNat : Int) != ((b[j]'h2).toNat : Int)) = true := by rw [hx, hy]; simp; omega
        have t2 : ¬ (a[j]'h1).toNat = (b[j]'h2).toNat := by rw [hx, hy]; exact hxy
        have hw : Hid (_) := HJ.out.1
        clear q1 q2 hx hy HJ hne
        go_wp2_with fail
        go_quiet (fail)
        go_wp2
        go_quiet (fail)
        go_wp2
        go_ret
        exact ⟨ret_bool (by simpa using H2.out), by rw [hw.out, World.drewN_drewN, World.drewN_drewN]; exact ⟨_, rfl⟩⟩
    · have hw : Hid (_) := HJ.out.1
      have H2 : Hid (decide ((a.size : Int) < (b.size : Int)) = below a b) := by
        have := lx_drop_end (l := a.toList) (m := b.toList) (i := j) (by rw [toList_len, toList_len]; omega)
        rw [HJ.out.2, toList_len, toList_len] at this
        rw [Hid, this]
        simp only [decide_eq_decide]
        omega
      clear HJ
      by_cases h2 : j < a.size
      · have i1 : (j : Int) < (a.size : Int) := by omega
        have i2 : ¬ (j : Int) < (b.size : Int) := by omega
        go_wp2_with fail
        go_ret
        exact ⟨ret_bool (by simpa using H2.out), by rw [hw.out]; exact ⟨_, rfl⟩⟩
      · have i1 : ¬ (j : Int) < (a.size : Int) := by omega
        go_wp2_with fail
        go_ret
        exact ⟨ret_bool (by simpa using H2.out), by rw [hw.out]; exact ⟨_, rfl⟩⟩

/-- A list of entries in a block of its own. -/
def Mo (w : World) (mb : Nat) (E : List En) : Prop := ∃ u, w.heap[mb]? = some (.cells #[u] 30 (0, 0)) ∧ Er 61 w 0 u E

theorem Mo.read {w : World} {mb : Nat} {E : List En} (h : Mo w mb E) : ∃ a cap, w.cell? ⟨mb, 0, none⟩ = some (.slice a E.length cap) ∧ ∀ i (hi : i < E.length), ∃ g, a = some ⟨g, 0, none⟩ ∧ w.cell? ⟨g, i * 2, none⟩ = some (.string (E[i]).1) ∧ w.cell? ⟨g, i * 2 + 1, none⟩ = some (.int .i64 (E[i]).2) := by
  obtain ⟨u, h1, h2⟩ := h
  obtain ⟨a, cap, rfl, h3⟩ := h2.slice
  exact ⟨a, cap, (cell_of_row _ _ _ _ _ _ h1).trans rfl, h3⟩

theorem eq_str (a b : ByteArray) : (a.toList == b.toList) = decide (a = b) := by
  by_cases h : a = b
  · rw [h]; simp
  · rw [decide_eq_false h, beq_eq_false_iff_ne]
    exact fun e => h (toList_inj e)

set_option maxHeartbeats 2000000 in
/-- The place of a name. -/
theorem m_at {w : World} {mb : Nat} {E : List En} (h : Mo w mb E) (hl : E.length ≤ 1000000) (s : ByteArray) :
    Calls Tryd.prog 39 #[.pointer (some ⟨mb, 0, none⟩), .string s] w fun e w' => w' = w ∧ ((e = .returned (.int .i64 (-1)) ∧ ∀ x ∈ E, x.1 ≠ s) ∨ ∃ (i : Nat) (y : Int), e = .returned (.int .i64 (i : Int)) ∧ E[i]? = some (s, y)) := by
  obtain ⟨a, cap, h0, hc⟩ := h.read
  have HC : Hid (_) := hc
  clear hc h
  go_enter Tryd.func39, Tryd.ntmps39
  go_wp2_with fail
  go_loopw [5] (fun i wr => ∃ j : Nat, i = .int .i64 (j : Int) ∧ j ≤ E.length ∧ Hid (wr = w ∧ ∀ i x, i < j → E[i]? = some x → x.1 ≠ s)) (fun i _ => (E.length - intOf i).toNat)
  case atStart => exact ⟨0, rfl, by omega, rfl, fun i x hi => by omega⟩
  case round =>
    obtain ⟨j, rfl, hj, HJ⟩ := hrel
    have hw : wr = w := HJ.out.1
    subst hw
    by_cases hlt : j < E.length
    · have i0 : (0 : Int) ≤ (j : Int) := by omega
      have i1 : (j : Int) < (E.length : Int) := by omega
      obtain ⟨g, rfl, c0, -⟩ := HC.out j hlt
      by_cases hs : (E[j]).1 = s
      · have t0 : ((E[j]).1.toList == s.toList) = true := by rw [hs]; simp
        have t1 : (E[j]).1.toList = s.toList := by rw [hs]
        have H2 : Hid (E[j]? = some (s, (E[j]).2)) := by show _ = _; rw [List.getElem?_eq_getElem hlt, ← hs]
        clear HJ hs
        go_wp2_with fail
        go_ret
        exact ⟨rfl, Or.inr ⟨j, _, rfl, H2.out⟩⟩
      · have t0 : ((E[j]).1.toList == s.toList) = false := by rw [eq_str]; simpa using hs
        have t1 : ¬ (E[j]).1.toList = s.toList := fun e => hs (toList_inj e)
        have H2 : Hid (∀ i x, i < j + 1 → E[i]? = some x → x.1 ≠ s) := fun i x hi hx => by
          rcases Nat.lt_succ_iff_lt_or_eq.1 hi with h | h
          · exact HJ.out.2 i x h hx
          · subst h
            rw [List.getElem?_eq_getElem hlt] at hx
            rw [← Option.some.inj hx]
            exact hs
        clear HJ hs
        go_wp2_with fail
        go_roundw
        case rel => exact ⟨j + 1, by go_num, by omega, by trivial, H2.out⟩
        case measure => simp [intOf]; omega
    · have i1 : ¬ (j : Int) < (E.length : Int) := by omega
      have H2 : Hid (∀ x ∈ E, x.1 ≠ s) := fun x hx => by
        obtain ⟨i, hi, rfl⟩ := List.getElem_of_mem hx
        exact HJ.out.2 i _ (by omega) (List.getElem?_eq_getElem hi)
      clear HJ
      go_wp2_with fail
      go_ret
      exact ⟨rfl, Or.inl ⟨rfl, fun a b hx => H2.out (a, b) hx⟩⟩

set_option maxHeartbeats 2000000 in
/-- Have four names but one a name's bucket? -/
theorem m_full {w : World} {mb : Nat} {E : List En} (h : Mo w mb E) (hl : E.length ≤ 1000000) (hE : ∀ x ∈ E, chk x.1 = 0) (s but : ByteArray) (hs : chk s = 0) :
    Calls Tryd.prog 40 #[.pointer (some ⟨mb, 0, none⟩), .string s, .string but] w fun e w' => w' = w ∧ e = .returned (.bool (decide (4 ≤ many E (bkt s) but))) := by
  obtain ⟨a, cap, h0, hc⟩ := h.read
  have HC : Hid (_ ∧ _ ∧ _) := ⟨hc, hE, hs⟩
  clear hc h hE hs
  go_enter Tryd.func40, Tryd.ntmps40
  go_wp2_with fail
  go_loopw [8, 7] (fun i k wr => ∃ j n : Nat, i = .int .i64 (j : Int) ∧ k = .int .i64 (n : Int) ∧ j ≤ E.length ∧ n ≤ j ∧ Hid (wr = w ∧ many (E.take j) (bkt s) but = n)) (fun i _ _ => (E.length - intOf i).toNat)
  case atStart => exact ⟨0, 0, rfl, rfl, by omega, by omega, rfl, rfl⟩
  case round =>
    obtain ⟨j, n, rfl, rfl, hj, hn, HJ⟩ := hrel
    have hw : wr = w := HJ.out.1
    subst hw
    by_cases hlt : j < E.length
    · have i0 : (0 : Int) ≤ (j : Int) := by omega
      have i1 : (j : Int) < (E.length : Int) := by omega
      obtain ⟨g, rfl, c0, -⟩ := HC.out.1 j hlt
      have HM : Hid (_) := many_take E (bkt s) but hlt
      have hsz := (chk_parts (HC.out.2.1 _ (List.getElem_mem hlt))).1
      have hsz2 := (chk_parts HC.out.2.2).1
      by_cases hs : (E[j]).1 = but
      · have t0 : ((E[j]).1.toList != but.toList) = false := by rw [hs]; simp
        have t1 : (E[j]).1.toList = but.toList := by rw [hs]
        have H2 : Hid (many (E.take (j + 1)) (bkt s) but = n) := by show _ = n; rw [HM.out, HJ.out.2, if_neg (fun h => h.1 hs)]; rfl
        clear HJ hs HM
        go_wp2_with fail
        go_roundw
        case rel => exact ⟨j + 1, n, by go_num, rfl, by omega, by omega, by trivial, H2.out⟩
        case measure => simp [intOf]; omega
      · have t0 : ((E[j]).1.toList != but.toList) = true := by
          rw [bne_iff_ne]
          exact fun e => hs (toList_inj e)
        have t1 : ¬ (E[j]).1.toList = but.toList := fun e => hs (toList_inj e)
        have t3 : ((E[j]).1.toList == but.toList) = false := by rw [eq_str]; simpa using hs
        have HB : Hid (hashL (rs (E[j]).1 0) 7 % 8 = bkt (E[j]).1 ∧ hashL (rs s 0) 7 % 8 = bkt s) := ⟨rfl, rfl⟩
        have HS : Hid (_) := hs
        clear hs
        go_wp2_with fail
        refine (f_bucket (E[j]).1 _ (by omega)).mono ?_
        rintro e w2 ⟨rfl, hw2⟩
        subst hw2
        go_wp2_with fail
        refine (f_bucket s _ (by omega)).mono ?_
        rintro e w2 ⟨rfl, hw2⟩
        subst hw2
        rw [HB.out.1, HB.out.2]
        by_cases hb : bkt (E[j]).1 = bkt s
        · have t2 : (bkt (E[j]).1 == bkt s) = true := by rw [hb]; simp
          have H2 : Hid (many (E.take (j + 1)) (bkt s) but = n + 1) := by show _ = n + 1; rw [HM.out, HJ.out.2, if_pos ⟨HS.out, hb⟩]
          clear HJ HM HB
          go_wp2_with fail
          go_roundw
          case rel => exact ⟨j + 1, n + 1, by go_num, by go_num, by omega, by omega, by trivial, H2.out⟩
          case measure => simp [intOf]; omega
        · have t2 : (bkt (E[j]).1 == bkt s) = false := by simpa using hb
          have H2 : Hid (many (E.take (j + 1)) (bkt s) but = n) := by show _ = n; rw [HM.out, HJ.out.2, if_neg (fun h => hb h.2)]; rfl
          clear HJ HM HB
          go_wp2_with fail
          go_roundw
          case rel => exact ⟨j + 1, n, by go_num, rfl, by omega, by omega, by trivial, H2.out⟩
          case measure => simp [intOf]; omega
    · have i1 : ¬ (j : Int) < (E.length : Int) := by omega
      have H2 : Hid (decide (4 ≤ (n : Int)) = decide (4 ≤ many E (bkt s) but)) := by
        have := HJ.out.2
        rw [List.take_of_length_le (by omega)] at this
        show _ = _
        rw [this, decide_eq_decide]
        omega
      clear HJ
      go_wp2_with fail
      go_ret
      exact ⟨rfl, ret_bool H2.out⟩

end Go.Proofs.YtnbbcbjfejdceaaDoor
