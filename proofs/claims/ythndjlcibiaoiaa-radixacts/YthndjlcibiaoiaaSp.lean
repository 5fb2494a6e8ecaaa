/-
  The law's own list of numbers beside a tree; a row of ints spoilt; are just those pages told that have not 0?
-/
import Derived.Test.YthndjlcibiaoiaaAw
namespace Go.Proofs.Ythndjlcibiaoiaa
open Go.RowKit
set_option linter.unusedVariables false

theorem cell_of {w : World} {X i : Nat} {cs : Array Value} {t : TypeId} {v : Value} (h : w.heap[X]? = some (.cells cs t (0, 0))) (hv : cs[i]? = some v) : w.cell? ⟨X, i, none⟩ = some v := by
  simp [World.cell?, h, hv]

/-- The law's list, as it lies. -/
def vb (V : Nat → Int) : Obj := .cells (i64s ((List.range 16).map V)) 3 (0, 0)

theorem vb_get (V : Nat → Int) {i : Nat} (h : i < 16) : (i64s ((List.range 16).map V))[i]? = some (.int .i64 (V i)) := by
  simp [i64s, h]

theorem vb_set (V : Nat → Int) (p : Nat) (v : Int) : (i64s ((List.range 16).map V)).setIfInBounds p (.int .i64 v) = i64s ((List.range 16).map (upd V p v)) := by
  apply Array.ext_getElem?
  intro i
  rw [Array.getElem?_setIfInBounds]
  by_cases h : i < 16
  · rw [vb_get _ h, vb_get _ h]
    unfold upd
    by_cases e : p = i
    · rw [if_pos e, if_pos e.symm, if_pos (by rw [size_i64s]; simp; omega)]
    · rw [if_neg e, if_neg (Ne.symm e)]
  · rw [Array.getElem?_eq_none (by rw [size_i64s]; simp; omega), Array.getElem?_eq_none (by rw [size_i64s]; simp; omega)]
    by_cases e : p = i
    · rw [if_pos e, if_neg (by rw [size_i64s]; simp; omega)]
    · rw [if_neg e]

set_option maxRecDepth 100000 in
set_option maxHeartbeats 1000000 in
theorem spoil_some {w : World} {q n c : Nat} {cur : Array Value} (hn : n ≤ 1000000) (hq : w.heap[q]? = some (.cells cur 3 (0, 0))) (hc : ∀ i, i < n → ∃ z, cur[i]? = some (.int .i64 z)) :
    Calls Try.prog 27 #[.slice (some ⟨q, 0, none⟩) n c] w fun e w' => e = .returned (.tuple #[]) ∧ Kept [q] w w' := by
  have HH : Hid (∃ cur, w.heap[q]? = some (.cells cur 3 (0, 0)) ∧ (∀ i, i < n → ∃ z, cur[i]? = some (.int .i64 z)) ∧ Kept [q] w w) := ⟨cur, hq, hc, Kept.refl _ _⟩
  clear hq hc
  go_enter Try.func27, Try.ntmps27
  go_wp2_with fail
  go_loopw [2] (fun i wr => ∃ j : Nat, j ≤ n ∧ i = .int .i64 (j : Int) ∧ Hid (∃ cur, wr.heap[q]? = some (.cells cur 3 (0, 0)) ∧ (∀ i, i < n → ∃ z, cur[i]? = some (.int .i64 z)) ∧ Kept [q] w wr)) (fun i _ => (n - intOf i).toNat)
  case atStart => exact ⟨0, by omega, rfl, HH⟩
  case round =>
    clear HH
    obtain ⟨j, hj, rfl, HJ⟩ := hrel
    by_cases hlt : j < n
    · have i0 : (0 : Int) ≤ (j : Int) := by omega
      have i1 : (j : Int) < (n : Int) := by omega
      obtain ⟨cur, h1, h2, h3⟩ := HJ.out
      obtain ⟨z, hz⟩ := h2 j hlt
      have x0 := cell_of h1 hz
      have x1 := block_frozen h1 j
      have HN : Hid (∀ z', ∃ cur, (wr.setCell ⟨q, j, none⟩ (.int .i64 z')).heap[q]? = some (.cells cur 3 (0, 0)) ∧ (∀ i, i < n → ∃ z, cur[i]? = some (.int .i64 z)) ∧ Kept [q] w (wr.setCell ⟨q, j, none⟩ (.int .i64 z'))) := fun z' => by
        refine ⟨_, block_set h1 _, fun i hi => ?_, h3.setCell (Or.inl (by simp)) _⟩
        rw [Array.getElem?_setIfInBounds]
        obtain ⟨y, hy⟩ := h2 i hi
        by_cases e : j = i
        · rw [if_pos e]
          have : i < cur.size := by
            rcases Nat.lt_or_ge i cur.size with h | h
            · exact h
            · rw [Array.getElem?_eq_none h] at hy; cases hy
          rw [if_pos (by omega)]
          exact ⟨_, rfl⟩
        · rw [if_neg e]; exact ⟨y, hy⟩
      clear h1 h2 h3 hz HJ
      go_wp2_with fail
      go_roundw
      case rel => exact ⟨j + 1, by omega, by go_num, HN.out _⟩
      case measure => simp [intOf]; omega
    · have i1 : ¬ (j : Int) < (n : Int) := by omega
      obtain ⟨cur, h1, h2, h3⟩ := HJ.out
      have HN : Hid (_) := h3
      clear h1 h2 h3 HJ
      go_wp2_with fail
      go_end0
      exact ⟨rfl, HN.out⟩

theorem spoil_nil (w : World) : Calls Try.prog 27 #[.slice none 0 0] w fun e w' => e = .returned (.tuple #[]) ∧ Kept [] w w' := by
  go_enter Try.func27, Try.ntmps27
  go_wp2_with fail
  go_loopw [2] (fun i wr => i = .int .i64 0 ∧ wr = w) (fun _ _ => 0)
  case atStart => exact ⟨rfl, rfl⟩
  case round =>
    obtain ⟨rfl, rfl⟩ := hrel
    go_wp2_with fail
    go_end0
    exact ⟨rfl, Kept.refl _ _⟩

section
variable {I : Trc → Prop} {S : List (Nat × Obj)} {w0 w : World} {b g f k L N : Nat} {W V : Nat → Int}

/-- A row beside a tree is spoilt: what else lies there stays. -/
theorem r_spoil {D : List (Nat × Obj)} {u : Value} {xs : List Int} (h : Rb I (D ++ S) w0 w b g f k L N W) (hu : Od u xs D) (hS : (g, box b f) ∈ S) (hd : ∀ x ∈ D, ∀ y ∈ S, y.1 ≠ x.1) (hx : xs.length ≤ 1000000) :
    Calls Try.prog 27 #[u] w fun e w' => e = .returned (.tuple #[]) ∧ Rb I S w0 w' b g f k L N W := by
  rcases hu with ⟨rfl, rfl, rfl⟩ | ⟨q, cap, cur, rfl, rfl, h0, h1, h2, h3, h4⟩
  · refine (spoil_nil w).mono ?_
    rintro e w' ⟨rfl, hk⟩
    exact ⟨rfl, h.still hk⟩
  · refine (spoil_some (w := w) (q := q) (cur := cur) (c := cap) hx (h.at_ (x := (q, .cells cur 3 (0, 0))) (by simp)) (fun i hi => ?_)).mono ?_
    · have h5 : (cur.toList.take xs.length)[i]? = some (.int .i64 (wordAt xs i)) := by
        rw [h4]; simp [hi, wordAt]
      rw [List.getElem?_take_of_lt hi] at h5
      exact ⟨_, by simpa using h5⟩
    · rintro e w' ⟨rfl, hk⟩
      refine ⟨rfl, h.turn [q] (fun x hx => ?_) hk S hS fun x hx => ⟨Or.inr ⟨x.2, by simp [hx]⟩, ?_⟩⟩
      · rw [List.mem_singleton] at hx
        exact ⟨.cells cur 3 (0, 0), by simp [hx]⟩
      · have h6 := h.at_ (x := x) (by simp [hx])
        rw [hk.block x.1 (lt_of_heap h6) (by simpa using hd _ (List.mem_singleton.2 rfl) x hx)]
        exact h6

set_option maxRecDepth 100000 in
set_option maxHeartbeats 2000000 in
/-- Just those pages are told that have not 0. -/
theorem p_good (h : Rb I S w0 w b g f k L N (wd V)) (bv : Nat) (hv : (bv, vb V) ∈ S) (c : Nat) (hc : c < k) (hR : Rd I c f) (hN : N < 900000) :
    Calls Try.prog 13 #[.pointer (some ⟨g, 0, none⟩), .int .i64 (c : Int), .slice (some ⟨bv, 0, none⟩) 16 16, .bool false] w fun e w' => e = .returned (.bool true) ∧ Rb I S w0 w' b g f k L (N + 64) (wd V) := by
  have HI : Hid (_ ∧ _ ∧ _ ∧ _) := ⟨hR, h, h.mem, hv⟩
  clear hR h hv
  go_enter Try.func13, Try.ntmps13
  go_wp2_with fail
  go_loopw [10, 9] (fun i u wr => ∃ (j : Nat) (ua : Option Addr) (un uc : Nat), i = .int .i64 (j : Int) ∧ u = .slice ua un uc ∧ j ≤ 16 ∧ Hid (∃ D, Od (.slice ua un uc) (pg V j) D ∧ Rb I (D ++ S) w0 wr b g f k L N (wd V) ∧ ∀ x ∈ D, ∀ y ∈ S, y.1 ≠ x.1)) (fun i _ _ => (16 - intOf i).toNat)
  case atStart => exact ⟨0, _, _, _, rfl, rfl, by omega, [], Or.inl ⟨rfl, rfl, rfl⟩, HI.out.2.1, by simp⟩
  case round =>
    obtain ⟨j, ua, un, uc, rfl, rfl, hj, HJ⟩ := hrel
    obtain ⟨D, hu, hR, hd⟩ := HJ.out
    have HD : Hid (_ ∧ _) := ⟨hu, hd⟩
    have HR : Hid (_) := hR
    clear hu hd hR HJ
    by_cases hlt : j < 16
    · have i0 : (0 : Int) ≤ (j : Int) := by omega
      have i3 : (j : Int) < 16 := by omega
      have x0 := cell_of (HR.out.at_ (x := (bv, vb V)) (by simp [HI.out.2.2.2])) (vb_get V hlt)
      obtain ⟨y, hy⟩ : ∃ y, V j = y := ⟨_, rfl⟩
      rw [hy] at x0
      by_cases h0 : y = 0
      · have H3 : Hid (_ ∧ _ ∧ _) := ⟨HD.out.1, HR.out, HD.out.2⟩
        rw [← pg_no (by rw [hy, h0])] at H3
        clear HR HD
        subst h0
        clear hy
        go_wp2_with fail
        go_roundw
        case rel => exact ⟨j + 1, _, _, _, by go_num, rfl, by omega, D, H3.out⟩
        case measure => simp [intOf]; omega
      · have t0 : (y != 0) = true := by simpa using h0
        obtain ⟨v', w', D', hr, hu', hR', hd'⟩ := Rb.append HR.out HD.out.1 HI.out.2.2.1 HD.out.2 (j : Int) (by have := pg_len V j; omega) 31
        have hu2 : Od v' (pg V (j + 1)) D' := by rw [pg_yes (by rw [hy]; exact h0)]; exact hu'
        have H3 : Hid (_ ∧ _ ∧ _) := ⟨hu2, hR', hd'⟩
        have HA : Hid (_) := hr
        obtain ⟨va, vn, vc, rfl⟩ : ∃ a n c, v' = .slice a n c := by
          rcases hu' with ⟨h1, -⟩ | ⟨_, _, _, h1, -⟩
          · exact ⟨_, _, _, h1⟩
          · exact ⟨_, _, _, h1⟩
        clear h0 hy hr hu' hR' hd' hu2 HR HD
        go_wp2_with (at_builtin; refine wpList_append_run _ rfl _ _ 31 31 rfl _ _ rfl rfl _ _ HA.out ?_)
        go_roundw
        case rel => exact ⟨j + 1, _, _, _, by go_num, rfl, by omega, D', H3.out⟩
        case measure => simp [intOf]; omega
    · have e : j = 16 := by omega
      have i0 : ¬ (j : Int) < 16 := by omega
      rw [e] at HD
      clear e
      go_wp2_with fail
      refine (r_pages HR.out c hc HI.out.1 (by omega)).mono ?_
      rintro e w1 ⟨u, D1, rfl, hu1, h1, hd1⟩
      obtain ⟨pa, pc, rfl⟩ := hu1.len
      have H1 : Hid (_ ∧ _ ∧ _) := ⟨hu1, h1, hd1⟩
      clear hu1 h1 hd1 HR
      go_wp2_with fail
      refine (same_ints (H := 0) (H' := 0) (H1.out.1.own fun x hx => Rb.at_ H1.out.2.1 (by simp [hx])) (HD.out.1.own fun x hx => Rb.at_ H1.out.2.1 (by simp [hx])) (by have := pg_len V 16; omega)).mono ?_
      rintro e w2 ⟨r, rfl, hr, hk⟩
      obtain rfl : r = true := hr.out.2 rfl
      have H2 : Hid (_) := Rb.still H1.out.2.1 hk
      clear hr hk
      go_wp2_with fail
      refine (r_spoil H2.out H1.out.1 (by simp [HI.out.2.2.1]) H1.out.2.2 (by have := pg_len V 16; omega)).mono ?_
      rintro e w3 ⟨rfl, h3⟩
      have H3 : Hid (_) := h3
      clear h3 H2 H1
      go_wp2_with fail
      refine (r_pages H3.out c hc HI.out.1 (by omega)).mono ?_
      rintro e w1 ⟨u, D1, rfl, hu1, h1, hd1⟩
      obtain ⟨pa, pc, rfl⟩ := hu1.len
      have H1 : Hid (_ ∧ _ ∧ _) := ⟨hu1, h1, hd1⟩
      clear hu1 h1 hd1 H3
      go_wp2_with fail
      refine (same_ints (H := 0) (H' := 0) (H1.out.1.own fun x hx => Rb.at_ H1.out.2.1 (by simp [hx])) (HD.out.1.own fun x hx => Rb.at_ H1.out.2.1 (by simp [hx])) (by have := pg_len V 16; omega)).mono ?_
      rintro e w2 ⟨r, rfl, hr, hk⟩
      obtain rfl : r = true := hr.out.2 rfl
      have H2 : Hid (_) := (Rb.still H1.out.2.1 hk).fewer (S' := S) (fun x hx => by simp [hx]) HI.out.2.2.1
      clear hr hk H1
      go_wp2_with fail
      go_ret
      exact ⟨rfl, H2.out⟩

set_option maxRecDepth 100000 in
set_option maxHeartbeats 2000000 in
/-- .. and none of no core. -/
theorem p_bad (h : Rb I S w0 w b g f k L N W) (bv : Nat) (c : Int) (hc : c < 0 ∨ (k : Int) ≤ c) :
    Calls Try.prog 13 #[.pointer (some ⟨g, 0, none⟩), .int .i64 c, .slice (some ⟨bv, 0, none⟩) 16 16, .bool true] w fun e w' => e = .returned (.bool true) ∧ Kept [] w w' := by
  have HI : Hid (_ ∧ _) := ⟨h, hc⟩
  clear h hc
  go_enter Try.func13, Try.ntmps13
  go_wp2_with fail
  go_loopw [10, 9] (fun i u wr => i = .int .i64 0 ∧ u = .slice none 0 0 ∧ wr = w) (fun _ _ _ => 0)
  case atStart => exact ⟨rfl, rfl, rfl⟩
  case round =>
    obtain ⟨rfl, rfl, rfl⟩ := hrel
    go_wp2_with fail
    refine (r_pages_no HI.out.1 c HI.out.2).mono ?_
    rintro e w1 ⟨rfl, rfl⟩
    go_wp2_with fail
    refine (same_ints (H := 0) (H' := 0) (Own.nil _ 0) (Own.nil _ 0) (by simp)).mono ?_
    rintro e w2 ⟨r, rfl, hr, hk⟩
    obtain rfl : r = true := hr.out.2 rfl
    have H2 : Hid (_) := hk
    clear hr hk
    go_wp2_with fail
    refine (spoil_nil _).mono ?_
    rintro e w3 ⟨rfl, hk⟩
    have H3 : Hid (_) := H2.out.trans hk (by simp)
    clear hk H2
    go_wp2_with fail
    refine (r_pages_no (Rb.still HI.out.1 H3.out) c HI.out.2).mono ?_
    rintro e w1 ⟨rfl, rfl⟩
    go_wp2_with fail
    refine (same_ints (H := 0) (H' := 0) (Own.nil _ 0) (Own.nil _ 0) (by simp)).mono ?_
    rintro e w2 ⟨r, rfl, hr, hk⟩
    obtain rfl : r = true := hr.out.2 rfl
    have H4 : Hid (_) := H3.out.trans hk (by simp)
    clear hr hk H3
    go_wp2_with fail
    go_ret
    exact ⟨rfl, H4.out⟩

end
end Go.Proofs.Ythndjlcibiaoiaa
