/-
  Counts of package refs: a flush, and an epoch's end.
-/
import Derived.Test.YtljmpcmkgeomiaaRc
namespace Go.Proofs.Ytljmpcmkgeomiaa
open Go.RowKit
set_option linter.unusedVariables false

/-- The words when core c's part of object o is flushed. -/
def fpart (k : Nat) (W : Nat → Nat → Int) (c o : Nat) : Nat → Nat → Int :=
  if W c o = 0 then W
  else if W (k + 1) o = 1 then upd (upd (upd W k o (wrap64 (W k o + W c o))) c o 0) (k + 1) o 0
  else upd (upd W k o (wrap64 (W k o + W c o))) c o 0

/-- .. of all objects below m. -/
def fparts (k : Nat) (W : Nat → Nat → Int) (c : Nat) : Nat → Nat → Nat → Int
  | 0 => W
  | o + 1 => fpart k (fparts k W c o) c o

/-- The bits of the cores below m. -/
def ors (n : Nat) (W : Nat → Nat → Int) : Nat → Int
  | 0 => 0
  | c + 1 => bits .or .i64 (ors n W c) (W c n)

/-- What an object's state becomes. -/
def stEnd (gl was : Int) (cnt : Bool) : Int := if was = 2 then 2 else if gl ≠ 0 then 0 else if was = 1 ∧ cnt = true then 2 else 1

/-- The words when the objects below m are looked at. -/
def ends (k : Nat) (W : Nat → Nat → Int) (cnt : Int) : Nat → Nat → Nat → Int
  | 0 => W
  | o + 1 => upd (ends k W cnt o) (k + 1) o (stEnd (ends k W cnt o k o) (ends k W cnt o (k + 1) o) (bit cnt o))

section
variable {P : Nat → Nat → Prop} {S : List (Nat × Obj)} {w0 w : World} {b g f n k L N : Nat} {W : Nat → Nat → Int}

theorem Rs.same (h : Rs P S w0 w b g f n k L N W) {r i : Nat} {v : Int} (e : v = W r i) : Rs P S w0 w b g f n k L N (upd W r i v) := by
  refine h.as fun r' i' _ _ => ?_
  unfold upd
  by_cases c : r' = r ∧ i' = i
  · rw [if_pos c, c.1, c.2, e]
  · rw [if_neg c]

set_option maxRecDepth 100000 in
set_option maxHeartbeats 1000000 in
theorem r_flushPart (h : Rs P S w0 w b g f n k L N W) (c o : Nat) (hc : c < k) (ho : o < n) (hP : ∀ c x, P c x) (hN : N < 999900) :
    Calls Try.prog 29 #[.pointer (some ⟨g, 0, none⟩), .int .i64 (c : Int), .int .i64 (o : Int)] w fun e w' => e = .returned (.tuple #[]) ∧ Rs P S w0 w' b g f n k L (N + 5) (fpart k W c o) := by
  go_enter Try.func29, Try.ntmps29
  go_wp2_with fail
  refine (r_partAt h c o hc ho).mono ?_
  rintro e w' ⟨rfl, hk⟩
  have H0 : Hid (_) := Rs.still h hk
  clear hk 
  go_wp2_with fail
  refine (r_load H0.out c c o hc (by omega) (by omega) (hP _ _) (by omega)).mono ?_
  rintro e w1 ⟨rfl, h1⟩
  have H1 : Hid (_) := h1
  have hD := h1.still (Kept.refl [] w1).drew
  have HX : Hid (_ ∧ _) := ⟨hD, hD.cells⟩
  clear h1 hD H0
  by_cases hz : W c o = 0
  · have E : Hid (fpart k W c o = W) := if_pos hz
    rw [hz]
    clear hz
    go_wp2_with fail
    (try simp only [Exit.inBlock, Exit.then])
    refine bodyPost_ret (results_none rfl _ _ _) rfl ?_
    exact ⟨rfl, by rw [E.out]; exact H1.out.mono (by omega)⟩
  · have HZ : Hid (_) := hz
    have t1 : (W c o == 0) = false := by simpa using hz
    clear hz H1
    go_wp2_with fail
    go_region_held3 (fun w' => w'.cell? ⟨g, 0, none⟩ = some (.pointer (some ⟨b, 0, none⟩)) ∧ w'.cell? ⟨g, 1, none⟩ = some (.int .i64 (f : Int)) ∧ w'.cell? ⟨g, 2, none⟩ = some (.int .i64 (n : Int))) (first | exact HX.out.2 | exact z1 | exact z2 | go_keep)
      (first
        | (go_at_call 47; refine (r_globalAt HX.out.1 o ho).mono ?_; rintro e w2 ⟨rfl, hk1⟩; have z1 := (HX.out.1.still hk1).cells)
        | (go_at_call 44; refine (a_add (HX.out.1.still hk1) c k o (W c o) hc (by omega) (by omega) (hP _ _) (by omega)).mono ?_; rintro e w3 ⟨rfl, h2⟩; have z2 := h2.cells))
    have H2 : Hid (_) := h2
    clear h2 z2 z1 hk1 HX
    go_wp2_with fail
    refine (r_partAt H2.out c o hc ho).mono ?_
    rintro e w' ⟨rfl, hk⟩
    have H3 : Hid (_) := Rs.still H2.out hk
    clear hk H2
    go_wp2_with fail
    refine (r_store H3.out c c o 0 hc (by omega) (by omega) (hP _ _) (by omega)).mono ?_
    rintro e w4 ⟨rfl, h4⟩
    have H4 : Hid (_) := h4
    clear h4 H3
    go_wp2_with fail
    refine (r_stateAt H4.out o ho).mono ?_
    rintro e w' ⟨rfl, hk⟩
    have H5 : Hid (_) := Rs.still H4.out hk
    clear hk H4
    go_wp2_with fail
    refine (r_load H5.out c (k + 1) o hc (by omega) (by omega) (hP _ _) (by omega)).mono ?_
    rintro e w6 ⟨rfl, h6⟩
    rw [upd_row _ _ (show k + 1 ≠ c by omega), upd_row _ _ (show k + 1 ≠ k by omega)]
    have H6 : Hid (_) := h6
    clear h6 H5
    by_cases hs : W (k + 1) o = 1
    · have E : Hid (fpart k W c o = upd (upd (upd W k o (wrap64 (W k o + W c o))) c o 0) (k + 1) o 0) := by unfold fpart; exact (if_neg HZ.out).trans (if_pos hs)
      rw [hs]
      clear hs
      go_wp2_with fail
      refine (r_stateAt H6.out o ho).mono ?_
      rintro e w' ⟨rfl, hk⟩
      have H7 : Hid (_) := Rs.still H6.out hk
      clear hk H6
      go_wp2_with fail
      refine (r_store H7.out c (k + 1) o 0 hc (by omega) (by omega) (hP _ _) (by omega)).mono ?_
      rintro e w8 ⟨rfl, h8⟩
      have H8 : Hid (_) := h8
      clear h8 H7
      go_wp2_with fail
      go_end0
      exact ⟨rfl, by rw [E.out]; exact H8.out.mono (by omega)⟩
    · have E : Hid (fpart k W c o = upd (upd W k o (wrap64 (W k o + W c o))) c o 0) := by unfold fpart; exact (if_neg HZ.out).trans (if_neg hs)
      have t2 : (W (k + 1) o == 1) = false := by simpa using hs
      clear hs
      go_wp2_with fail
      go_end0
      exact ⟨rfl, by rw [E.out]; exact H6.out.mono (by omega)⟩

set_option maxRecDepth 100000 in
set_option maxHeartbeats 1000000 in
theorem r_everCounted (h : Rs P S w0 w b g f n k L N W) (c : Nat) (hc : c < k) (hP : ∀ c x, P c x) (hN : N < 999900) :
    Calls Try.prog 50 #[.pointer (some ⟨g, 0, none⟩), .int .i64 (c : Int)] w fun e w' => e = .returned (.int .i64 (ors n W k)) ∧ Rs P S w0 w' b g f n k L (N + 8) W := by
  obtain ⟨c0, c1, c2⟩ := h.cells
  have F := h.fx
  have k8 := F.khi
  go_enter Try.func50, Try.ntmps50
  go_wp2_with fail
  refine (r_cores h).mono ?_
  rintro e w' ⟨rfl, rfl⟩
  have H0 : Hid (_) := h
  clear h c0 c1 c2
  go_wp2_with fail
  go_loopw [5, 12] (fun s i wr => ∃ j : Nat, i = .int .i64 (j : Int) ∧ s = .int .i64 (ors n W j) ∧ j ≤ k ∧ Hid (Rs P S w0 wr b g f n k L (N + j) W)) (fun _ i _ => (k - intOf i).toNat)
  case atStart => exact ⟨0, rfl, rfl, by omega, H0.out⟩
  case round =>
    obtain ⟨j, rfl, rfl, hj, HJ⟩ := hrel
    by_cases hlt : j < k
    · have i0 : (j : Int) < (k : Int) := by omega
      go_wp2_with fail
      refine (r_countedAt HJ.out j hlt).mono ?_
      rintro e w1 ⟨rfl, hk⟩
      have H1 : Hid (_) := Rs.still HJ.out hk
      clear hk HJ
      go_wp2_with fail
      refine (r_load H1.out c j n hc (by omega) (by omega) (hP _ _) (by omega)).mono ?_
      rintro e w2 ⟨rfl, h2⟩
      have H2 : Hid (_) := h2
      clear h2 H1
      go_wp2
      go_roundw
      case rel => exact ⟨j + 1, by go_num, rfl, by omega, H2.out⟩
      case measure => simp [intOf]; omega
    · have e : j = k := by omega
      subst e
      go_wp2_with fail
      go_ret
      exact ⟨rfl, HJ.out.mono (by omega)⟩

/-- Has every core below m flushed? -/
def allAt (n : Nat) (W : Nat → Nat → Int) (now : Int) (m : Nat) : Prop := ∀ c, c < m → W c (n + 1) = now

set_option maxRecDepth 100000 in
set_option maxHeartbeats 1000000 in
theorem r_allFlushed (h : Rs P S w0 w b g f n k L N W) (c : Nat) (now : Int) (hn : wrap64 (W k n + 1) = now) (hc : c < k) (hP : ∀ c x, P c x) (hN : N < 999900) :
    Calls Try.prog 33 #[.pointer (some ⟨g, 0, none⟩), .int .i64 (c : Int)] w fun e w' => ∃ r : Bool, e = .returned (.bool r) ∧ Hid (r = true ↔ allAt n W now k) ∧ Rs P S w0 w' b g f n k L (N + 9) W := by
  have F := h.fx
  have k8 := F.khi
  have HN : Hid (_) := hn
  clear hn
  go_enter Try.func33, Try.ntmps33
  go_wp2_with fail
  refine (r_epoch h c hc (hP _ _) (by omega)).mono ?_
  rintro e w1 ⟨rfl, h1⟩
  obtain ⟨c0, c1, c2⟩ := h1.cells
  have H1 : Hid (_) := h1
  clear h1
  go_wp2_with fail
  rw [HN.out]
  refine (r_cores H1.out).mono ?_
  rintro e w' ⟨rfl, rfl⟩
  clear c0 c1 c2
  go_wp2_with fail
  go_loopw [16] (fun i wr => ∃ j : Nat, i = .int .i64 (j : Int) ∧ j ≤ k ∧ Hid (Rs P S w0 wr b g f n k L (N + 1 + j) W ∧ allAt n W now j)) (fun i _ => (k - intOf i).toNat)
  case atStart => exact ⟨0, rfl, by omega, H1.out, fun c hc => by omega⟩
  case round =>
    obtain ⟨j, rfl, hj, HJ⟩ := hrel
    by_cases hlt : j < k
    · have i0 : (j : Int) < (k : Int) := by omega
      go_wp2_with fail
      refine (r_flushedAt HJ.out.1 j hlt).mono ?_
      rintro e w1 ⟨rfl, hk⟩
      have H1 : Hid (_ ∧ _) := ⟨Rs.still HJ.out.1 hk, HJ.out.2⟩
      clear hk HJ
      go_wp2_with fail
      refine (r_load H1.out.1 c j (n + 1) hc (by omega) (by omega) (hP _ _) (by omega)).mono ?_
      rintro e w2 ⟨rfl, h2⟩
      have H2 : Hid (_ ∧ _) := ⟨h2, H1.out.2⟩
      clear h2 H1
      by_cases hq : W j (n + 1) = now
      · have t1 : (W j (n + 1) != now) = false := by simpa using hq
        have H3 : Hid (_ ∧ _) := ⟨H2.out.1, (fun c hc => by
          rcases Nat.lt_succ_iff_lt_or_eq.1 hc with h3 | h3
          · exact H2.out.2 c h3
          · rw [h3]; exact hq : allAt n W now (j + 1))⟩
        clear hq H2
        go_wp2
        go_roundw
        case rel => exact ⟨j + 1, by go_num, by omega, H3.out⟩
        case measure => simp [intOf]; omega
      · have t1 : (W j (n + 1) != now) = true := by simpa using hq
        have H3 : Hid (_ ∧ _) := ⟨H2.out.1, (fun hall => hq (hall j hlt) : ¬ allAt n W now k)⟩
        clear hq H2
        go_wp2_with fail
        go_ret
        exact ⟨false, rfl, ⟨fun h => by simp at h, fun h => absurd h H3.out.2⟩, H3.out.1.mono (by omega)⟩
    · have e : j = k := by omega
      subst e
      go_wp2_with fail
      go_ret
      exact ⟨true, rfl, ⟨fun _ => HJ.out.2, fun _ => rfl⟩, HJ.out.1.mono (by omega)⟩

set_option maxRecDepth 100000 in
set_option maxHeartbeats 1000000 in
theorem r_stateAtEnd (h : Rs P S w0 w b g f n k L N W) (c o : Nat) (was cnt : Int) (hc : c < k) (ho : o < n) (hP : ∀ c x, P c x) (hN : N < 999900) :
    Calls Try.prog 51 #[.pointer (some ⟨g, 0, none⟩), .int .i64 (c : Int), .int .i64 (o : Int), .int .i64 was, .int .i64 cnt] w fun e w' => e = .returned (.int .i64 (stEnd (W k o) was (bit cnt o))) ∧ Rs P S w0 w' b g f n k L (N + 1) W := by
  have F := h.fx
  have n64 := F.nhi
  have o1 : (o : Int) < 64 := by omega
  by_cases h2 : was = 2
  · subst h2
    rw [show stEnd (W k o) 2 (bit cnt o) = 2 from if_pos rfl]
    go_enter Try.func51, Try.ntmps51
    go_wp2_with fail
    go_ret
    exact ⟨rfl, h.mono (by omega)⟩
  · have E2 : Hid (_) := h2
    have t2 : (was == 2) = false := by simpa using h2
    clear h2
    have HB : Hid (_) := bit_test cnt o (by omega)
    go_enter Try.func51, Try.ntmps51
    go_wp2_with fail
    refine (r_globalAt h o ho).mono ?_
    rintro e w1 ⟨rfl, hk⟩
    have H1 : Hid (_) := Rs.still h hk
    clear hk
    go_wp2_with fail
    refine (r_load H1.out c k o hc (by omega) (by omega) (hP _ _) (by omega)).mono ?_
    rintro e w2 ⟨rfl, h2⟩
    have H2 : Hid (_) := h2
    clear h2 H1
    by_cases hg : W k o = 0
    · have EG : Hid (W k o = 0) := hg
      rw [hg]
      clear hg
      by_cases h1 : was = 1
      · subst h1
        by_cases hb : bit cnt o = true
        · have E : Hid (stEnd (W k o) 1 (bit cnt o) = 2) := by unfold stEnd; exact (if_neg (by decide)).trans ((if_neg (by simpa using EG.out)).trans (if_pos ⟨rfl, hb⟩))
          have t3 : (bits .and .i64 cnt (wrap64 (2 ^ o)) != 0) = true := by rw [HB.out, hb]
          clear hb
          go_wp2_with fail
          go_ret
          exact ⟨ret_int E.out.symm, H2.out⟩
        · have E : Hid (stEnd (W k o) 1 (bit cnt o) = 1) := by unfold stEnd; exact (if_neg (by decide)).trans ((if_neg (by simpa using EG.out)).trans (if_neg (fun h => hb h.2)))
          have t3 : (bits .and .i64 cnt (wrap64 (2 ^ o)) != 0) = false := by rw [HB.out]; simpa using hb
          clear hb
          go_wp2_with fail
          go_ret
          exact ⟨ret_int E.out.symm, H2.out⟩
      · have E : Hid (stEnd (W k o) was (bit cnt o) = 1) := by unfold stEnd; exact (if_neg E2.out).trans ((if_neg (by simpa using EG.out)).trans (if_neg (fun h => h1 h.1)))
        have t3 : (was == 1) = false := by simpa using h1
        clear h1
        go_wp2_with fail
        go_ret
        exact ⟨ret_int E.out.symm, H2.out⟩
    · have E : Hid (stEnd (W k o) was (bit cnt o) = 0) := by unfold stEnd; exact (if_neg E2.out).trans (if_pos hg)
      have t3 : (W k o != 0) = true := by simpa using hg
      clear hg
      go_wp2_with fail
      go_ret
      exact ⟨ret_int E.out.symm, H2.out⟩

/-- The words when an epoch has ended. -/
def ended (k n : Nat) (W : Nat → Nat → Int) : Nat → Nat → Int := upd (ends k W (ors n W k) n) k n (wrap64 (ends k W (ors n W k) n k n + 1))

set_option maxRecDepth 100000 in
set_option maxHeartbeats 1000000 in
theorem r_endEpoch (h : Rs P S w0 w b g f n k L N W) (c : Nat) (hc : c < k) (hP : ∀ c x, P c x) (hN : N < 999000) :
    Calls Try.prog 34 #[.pointer (some ⟨g, 0, none⟩), .int .i64 (c : Int)] w fun e w' => e = .returned (.tuple #[]) ∧ Rs P S w0 w' b g f n k L (N + 201) (ended k n W) := by
  have F := h.fx
  have n64 := F.nhi
  go_enter Try.func34, Try.ntmps34
  go_wp2_with fail
  refine (r_everCounted h c hc hP (by omega)).mono ?_
  rintro e w1 ⟨rfl, h1⟩
  obtain ⟨c0, c1, c2⟩ := h1.cells
  have H1 : Hid (_) := h1
  clear h1
  go_wp2_with fail
  clear c0 c1 c2
  go_loopw [15] (fun i wr => ∃ j : Nat, i = .int .i64 (j : Int) ∧ j ≤ n ∧ Hid (Rs P S w0 wr b g f n k L (N + 8 + 3 * j) (ends k W (ors n W k) j))) (fun i _ => (n - intOf i).toNat)
  case atStart => exact ⟨0, rfl, by omega, H1.out⟩
  case round =>
    obtain ⟨j, rfl, hj, HJ⟩ := hrel
    by_cases hlt : j < n
    · have i0 : (j : Int) < (n : Int) := by omega
      go_wp2_with fail
      refine (r_stateAt HJ.out j hlt).mono ?_
      rintro e w1 ⟨rfl, hk⟩
      have H1 : Hid (_) := Rs.still HJ.out hk
      clear hk HJ
      go_wp2_with fail
      refine (r_load H1.out c (k + 1) j hc (by omega) (by omega) (hP _ _) (by omega)).mono ?_
      rintro e w2 ⟨rfl, h2⟩
      have H2 : Hid (_) := h2
      clear h2 H1
      go_wp2_with fail
      refine (r_stateAtEnd H2.out c j _ _ hc hlt hP (by omega)).mono ?_
      rintro e w3 ⟨rfl, h3⟩
      have H3 : Hid (_) := h3
      clear h3 H2
      by_cases hs : stEnd (ends k W (ors n W k) j k j) (ends k W (ors n W k) j (k + 1) j) (bit (ors n W k) j) = ends k W (ors n W k) j (k + 1) j
      · have t1 : (stEnd (ends k W (ors n W k) j k j) (ends k W (ors n W k) j (k + 1) j) (bit (ors n W k) j) != ends k W (ors n W k) j (k + 1) j) = false := by simpa using hs
        have H4 : Hid (_) := (Rs.same H3.out hs).mono (show _ ≤ N + 8 + 3 * (j + 1) by omega)
        clear hs H3
        go_wp2
        go_roundw
        case rel => exact ⟨j + 1, by go_num, by omega, H4.out⟩
        case measure => simp [intOf]; omega
      · have t1 : (stEnd (ends k W (ors n W k) j k j) (ends k W (ors n W k) j (k + 1) j) (bit (ors n W k) j) != ends k W (ors n W k) j (k + 1) j) = true := by simpa using hs
        clear hs
        go_wp2_with fail
        refine (r_stateAt H3.out j hlt).mono ?_
        rintro e w4 ⟨rfl, hk⟩
        have H4 : Hid (_) := Rs.still H3.out hk
        clear hk H3
        go_wp2_with fail
        refine (r_store H4.out c (k + 1) j _ hc (by omega) (by omega) (hP _ _) (by omega)).mono ?_
        rintro e w5 ⟨rfl, h5⟩
        have H5 : Hid (_) := h5.mono (show _ ≤ N + 8 + 3 * (j + 1) by omega)
        clear h5 H4
        go_wp2
        go_roundw
        case rel => exact ⟨j + 1, by go_num, by omega, H5.out⟩
        case measure => simp [intOf]; omega
    · have e : j = n := by omega
      subst e
      have hD := Rs.still HJ.out (Kept.refl [] _).drew
      have HX : Hid (_ ∧ _) := ⟨hD, hD.cells⟩
      clear hD HJ
      go_wp2_with fail
      go_region_held3 (fun w' => w'.cell? ⟨g, 0, none⟩ = some (.pointer (some ⟨b, 0, none⟩)) ∧ w'.cell? ⟨g, 1, none⟩ = some (.int .i64 (f : Int)) ∧ w'.cell? ⟨g, 2, none⟩ = some (.int .i64 (j : Int))) (first | exact HX.out.2 | exact z1 | exact z2 | go_keep)
        (first
          | (go_at_call 49; refine (r_epochAt HX.out.1).mono ?_; rintro e w2 ⟨rfl, hk1⟩; have z1 := (HX.out.1.still hk1).cells)
          | (go_at_call 44; refine (a_add (HX.out.1.still hk1) c k j 1 hc (by omega) (by omega) (hP _ _) (by omega)).mono ?_; rintro e w3 ⟨rfl, h2⟩; have z2 := h2.cells))
      have H2 : Hid (_) := h2
      clear h2 z2 z1 hk1 HX
      go_wp2_with fail
      go_end0
      exact ⟨rfl, H2.out.mono (by omega)⟩

/-- The words when core c has flushed, the epoch not ended. -/
def flushed (k n : Nat) (W : Nat → Nat → Int) (c : Nat) : Nat → Nat → Int := upd (fparts k W c n) c (n + 1) (wrap64 (fparts k W c n k n + 1))

/-- A flush. -/
def Fl (k n : Nat) (W : Nat → Nat → Int) (c : Nat) (W' : Nat → Nat → Int) : Prop :=
  (allAt n (flushed k n W c) (wrap64 (flushed k n W c k n + 1)) k ∧ W' = ended k n (flushed k n W c)) ∨ (¬ allAt n (flushed k n W c) (wrap64 (flushed k n W c k n + 1)) k ∧ W' = flushed k n W c)

set_option maxRecDepth 100000 in
set_option maxHeartbeats 1000000 in
theorem r_flush (h : Rs P S w0 w b g f n k L N W) (c : Nat) (hc : c < k) (hP : ∀ c x, P c x) (hN : N < 998000) :
    Calls Try.prog 12 #[.pointer (some ⟨g, 0, none⟩), .int .i64 (c : Int)] w fun e w' => e = .returned (.int .i64 0) ∧ ∃ W', Fl k n W c W' ∧ Rs P S w0 w' b g f n k L (N + 600) W' := by
  have F := h.fx
  have n64 := F.nhi
  obtain ⟨c0, c1, c2⟩ := h.cells
  have H0 : Hid (_) := h
  go_enter Try.func12, Try.ntmps12
  go_wp2_with fail
  refine (r_core_yes h c hc).mono ?_
  rintro e w' ⟨rfl, rfl⟩
  clear h
  go_wp2_with fail
  clear c0 c1 c2
  go_loopw [17] (fun i wr => ∃ j : Nat, i = .int .i64 (j : Int) ∧ j ≤ n ∧ Hid (Rs P S w0 wr b g f n k L (N + 5 * j) (fparts k W c j))) (fun i _ => (n - intOf i).toNat)
  case atStart => exact ⟨0, rfl, by omega, H0.out⟩
  case round =>
    obtain ⟨j, rfl, hj, HJ⟩ := hrel
    by_cases hlt : j < n
    · have i0 : (j : Int) < (n : Int) := by omega
      go_wp2_with fail
      refine (r_flushPart HJ.out c j hc hlt hP (by omega)).mono ?_
      rintro e w1 ⟨rfl, h1⟩
      have H1 : Hid (_) := h1.mono (show _ ≤ N + 5 * (j + 1) by omega)
      clear h1 HJ
      go_wp2
      go_roundw
      case rel => exact ⟨j + 1, by go_num, by omega, H1.out⟩
      case measure => simp [intOf]; omega
    · have e : j = n := by omega
      subst e
      go_wp2_with fail
      refine (r_flushedAt HJ.out c hc).mono ?_
      rintro e w1 ⟨rfl, hk⟩
      have H1 : Hid (_) := Rs.still HJ.out hk
      clear hk HJ
      go_wp2_with fail
      refine (r_epoch H1.out c hc (hP _ _) (by omega)).mono ?_
      rintro e w2 ⟨rfl, h2⟩
      have H2 : Hid (_) := h2
      clear h2 H1
      go_wp2_with fail
      refine (r_store H2.out c c (j + 1) _ hc (by omega) (by omega) (hP _ _) (by omega)).mono ?_
      rintro e w3 ⟨rfl, h3⟩
      have H3 : Hid (Rs P S w0 w3 b g f j k L _ (flushed k j W c)) := h3
      clear h3 H2
      go_wp2_with fail
      refine (r_allFlushed H3.out c _ rfl hc hP (by omega)).mono ?_
      rintro e w4 ⟨r, rfl, hr, h4⟩
      have H4 : Hid (_) := h4
      clear h4 H3
      cases r
      · go_wp2_with fail
        go_ret
        exact ⟨rfl, _, Or.inr ⟨fun h => by have := hr.out.2 h; simp at this, rfl⟩, H4.out.mono (by omega)⟩
      · go_wp2_with fail
        refine (r_endEpoch H4.out c hc hP (by omega)).mono ?_
        rintro e w5 ⟨rfl, h5⟩
        have H5 : Hid (_) := h5
        clear h5 H4
        go_wp2_with fail
        go_ret
        exact ⟨rfl, _, Or.inl ⟨hr.out.1 (by simp), rfl⟩, H5.out.mono (by omega)⟩

set_option maxRecDepth 100000 in
theorem r_flush_nocore (h : Rs P S w0 w b g f n k L N W) (c : Int) (hc : c < 0 ∨ (k : Int) ≤ c) :
    Calls Try.prog 12 #[.pointer (some ⟨g, 0, none⟩), .int .i64 c] w fun e w' => e = .returned (.int .i64 600) ∧ w' = w := by
  go_enter Try.func12, Try.ntmps12
  go_wp2_with fail
  refine (r_core_no h c hc).mono ?_
  rintro e w' ⟨rfl, rfl⟩
  go_wp2_with fail
  go_ret
  exact ⟨rfl, rfl⟩

end
end Go.Proofs.Ytljmpcmkgeomiaa
