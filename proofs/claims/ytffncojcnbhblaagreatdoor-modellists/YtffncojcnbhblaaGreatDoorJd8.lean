/-
  Joined of my texts Ma Mb.
-/
import Derived.Test.YtffncojcnbhblaaGreatDoorJd7
set_option linter.unusedVariables false
set_option linter.unusedSimpArgs false
set_option maxRecDepth 100000
set_option maxHeartbeats 8000000
namespace Go.Proofs.YtffncojcnbhblaaGreatDoor
open Go.RowKit
def madeB (M : List Int) : Bool := decide (1 ≤ M.length) && decide (M.length ≤ 8) && M.all fun z => decide (0 ≤ z) && decide (z ≤ 32)
def givenB (M : List Int) (z : Int) : Bool := match M[((z - 2) % 8).toNat]? with
 | none => false
 | some m => decide ((z - 2) / 8 < m)
def numsB (L : List Ino) (M : List Int) : Bool := match L with
 | [] => false
 | x :: l => x.num == 1 && x.dir && adj ltI (x :: l) && l.all fun y => givenB M y.num
theorem rem8 (m : Nat) : ((m : Int)).tmod 8 = ((m % 8 : Nat) : Int) := by rw [Int.tmod_eq_emod_of_nonneg (by omega)]; omega
theorem div8 (m : Nat) : ((m : Int)).tdiv 8 = ((m / 8 : Nat) : Int) := by rw [Int.tdiv_eq_ediv_of_nonneg (by omega)]; omega
theorem n_core (num : Int) (m : Nat) (hm : num - 2 = (m : Int)) (hn : num ≤ 9223372036854775807) (w : World) :
  Calls Tryz.prog 52 #[.int .i64 num] w fun e w' => e = .returned (.int .i64 ((m % 8 : Nat) : Int)) ∧ w' = w := by
 have HR : Hid ((m : Int).tmod 8 = ((m % 8 : Nat) : Int)) := rem8 m
 have e1 : num = (m : Int) + 2 := by omega
 subst e1
 clear hm
 have i0 : ¬ (m : Int) + 2 < 2 := by omega
 have v1 : IntKind.i64.wrap ((m : Int) + 2 - 2) = (m : Int) := by rw [IntKind.wrap_i64]; omega
 have v2 : wrap64 ((m : Int) + 2 - 2) = (m : Int) := by unfold wrap64; omega
 have v3 : (m : Int) + 2 - 2 = (m : Int) := by omega
 go_enter Tryz.func52, Tryz.ntmps52
 go_wp2_with fail
 go_ret
 refine ⟨ret_int ?_, rfl⟩
 first
  | exact HR.out
  | (rw [v3]; exact HR.out)
  | (rw [Int.emod_def] at *; omega)
  | omega
theorem n_ahead (num : Int) (m : Nat) (hm : num - 2 = (m : Int)) (hn : num ≤ 9223372036854775807) (w : World) :
  Calls Tryz.prog 53 #[.int .i64 num] w fun e w' => e = .returned (.int .i64 ((m / 8 : Nat) : Int)) ∧ w' = w := by
 have HR : Hid ((m : Int).tdiv 8 = ((m / 8 : Nat) : Int)) := div8 m
 have e1 : num = (m : Int) + 2 := by omega
 subst e1
 clear hm
 have v1 : IntKind.i64.wrap ((m : Int) + 2 - 2) = (m : Int) := by rw [IntKind.wrap_i64]; omega
 have v2 : wrap64 ((m : Int) + 2 - 2) = (m : Int) := by unfold wrap64; omega
 have v3 : (m : Int) + 2 - 2 = (m : Int) := by omega
 go_enter Tryz.func53, Tryz.ntmps53
 go_wp2_with fail
 go_ret
 refine ⟨ret_int ?_, rfl⟩
 first
  | exact HR.out
  | (rw [v3]; exact HR.out)
  | omega
theorem p_made {w : World} {a : Option Addr} {M : List Int} (hM : IntA w a M) (hn : M.length ≤ lim) (c : Nat) :
  Calls Tryz.prog 31 #[.slice a M.length c] w fun e w' => e = .returned (.bool (madeB M)) ∧ Kept [] w w' := by
 have HM : Hid (IntA w a M) := hM
 unfold lim at hn
 clear hM
 by_cases h1 : M.length < 1
 ·
  have i0 : (M.length : Int) < 1 := by omega
  have HE : Hid (false = madeB M) := by show _ = _; unfold madeB; simp; intro h; omega
  go_enter Tryz.func31, Tryz.ntmps31
  go_wp2_with fail
  go_ret
  exact ⟨ret_bool HE.out, Kept.refl _ _⟩
 have i0 : ¬ (M.length : Int) < 1 := by omega
 by_cases h2 : 8 < M.length
 ·
  have i1 : (8 : Int) < (M.length : Int) := by omega
  have HE : Hid (false = madeB M) := by show _ = _; unfold madeB; simp; intros; omega
  go_enter Tryz.func31, Tryz.ntmps31
  go_wp2_with fail
  go_ret
  exact ⟨ret_bool HE.out, Kept.refl _ _⟩
 have i1 : ¬ (8 : Int) < (M.length : Int) := by omega
 go_enter Tryz.func31, Tryz.ntmps31
 go_wp2_with fail
 go_loopw [15] (fun i wr => ∃ n : Nat, i = .int .i64 (n : Int) ∧ n ≤ M.length ∧ wr = w ∧ Hid (∀ j (hj : j < M.length), j < n → 0 ≤ M[j] ∧ M[j] ≤ 32)) (fun i _ => (M.length - intOf i).toNat)
 case atStart => exact ⟨0, rfl, by omega, rfl, fun j _ hj => by omega⟩
 case round =>
  obtain ⟨n, rfl, hn, hw, HJ⟩ := hrel
  have hw2 := hw.symm
  subst hw2
  clear hw
  by_cases hlt : n < M.length
  ·
   have j0 : (0 : Int) ≤ (n : Int) := by omega
   have j1 : (n : Int) < (M.length : Int) := by omega
   obtain ⟨b, o, ha, hc⟩ := HM.out n hlt
   subst ha
   obtain ⟨z, hz⟩ : ∃ z, M[n] = z := ⟨_, rfl⟩
   have HZ : Hid (_) := hz
   rw [hz] at hc
   clear hz
   have HNo : Hid (¬ (0 ≤ z ∧ z ≤ 32) → false = madeB M) := fun h => by
    symm
    rw [← Bool.not_eq_true]
    unfold madeB
    rw [Bool.and_eq_true, List.all_eq_true]
    rintro ⟨-, e⟩
    have := e _ (List.getElem_mem hlt)
    rw [HZ.out] at this
    simp at this
    exact h this
   by_cases hz0 : z < 0
   ·
    have HE : Hid (false = madeB M) := HNo.out (by omega)
    go_wp2_with fail
    go_ret
    exact ⟨ret_bool HE.out, Kept.refl _ _⟩
   ·
    by_cases hz1 : 32 < z
    ·
     have HE : Hid (false = madeB M) := HNo.out (by omega)
     go_wp2_with fail
     go_ret
     exact ⟨ret_bool HE.out, Kept.refl _ _⟩
    ·
     have HE : Hid (∀ j (hj : j < M.length), j < n + 1 → 0 ≤ M[j] ∧ M[j] ≤ 32) := fun j hj hjn => by
      by_cases e : j = n
      · subst e; rw [HZ.out]; omega
      · exact HJ.out j hj (by omega)
     clear HJ HNo
     go_wp2_with fail
     go_roundw
     case rel => exact ⟨n + 1, by go_num, by omega, trivial, HE.out⟩
     case measure => simp [intOf]; omega
  ·
   have j1 : ¬ (n : Int) < (M.length : Int) := by omega
   have HE : Hid (true = madeB M) := by
    show true = madeB M
    symm
    unfold madeB
    rw [Bool.and_eq_true, Bool.and_eq_true, List.all_eq_true]
    refine ⟨⟨by simp; omega, by simp; omega⟩, fun x hx => ?_⟩
    obtain ⟨j, hj, rfl⟩ := List.getElem_of_mem hx
    have := HJ.out j hj (by omega)
    simpa using this
   go_wp2_with fail
   go_ret
   exact ⟨ret_bool HE.out, Kept.refl _ _⟩
theorem adj_lt {L : List Ino} (h : adj ltI L = true) : ∀ i j (hi : i < L.length) (hj : j < L.length), i < j → (L[i]).num < (L[j]).num := by
 rw [adj_iff] at h
 intro i j
 induction j with
 | zero => intro _ _ h; omega
 | succ j ih =>
  intro hi hj hij
  have h1 := h j hj
  unfold ltI at h1
  rw [decide_eq_true_eq] at h1
  by_cases e : i = j
  · subst e; exact h1
  · have := ih hi (by omega) (by omega); omega
theorem nums_iff {L : List Ino} {M : List Int} : numsB L M = true ↔ ∃ h : 0 < L.length, (L[0]).num = 1 ∧ (L[0]).dir = true ∧ adj ltI L = true ∧ ∀ j (hj : j + 1 < L.length), givenB M (L[j + 1]).num = true := by
 cases L with
 | nil => simp [numsB]
 | cons x l =>
  unfold numsB
  rw [Bool.and_eq_true, Bool.and_eq_true, Bool.and_eq_true, List.all_eq_true]
  constructor
  ·
   rintro ⟨⟨⟨h1, h2⟩, h3⟩, h4⟩
   exact ⟨by simp, by simpa using h1, h2, h3, fun j hj => h4 _ (by simp)⟩
  ·
   rintro ⟨h0, h1, h2, h3, h4⟩
   refine ⟨⟨⟨by simpa using h1, h2⟩, h3⟩, fun y hy => ?_⟩
   obtain ⟨j, hj, rfl⟩ := List.getElem_of_mem hy
   exact h4 j (by simpa using hj)
theorem given_in {M : List Int} {z : Int} {m : Nat} (hm : z - 2 = (m : Int)) (hl : m % 8 < M.length) : givenB M z = decide (((m / 8 : Nat) : Int) < M[m % 8]) := by
 unfold givenB
 have e5 : ((z - 2) % 8).toNat = m % 8 := by omega
 have e6 : (z - 2) / 8 = ((m / 8 : Nat) : Int) := by omega
 rw [e5, e6, List.getElem?_eq_getElem hl]
theorem given_out {M : List Int} {z : Int} {m : Nat} (hm : z - 2 = (m : Int)) (hl : ¬ m % 8 < M.length) : givenB M z = false := by
 unfold givenB
 have e5 : ((z - 2) % 8).toNat = m % 8 := by omega
 rw [e5, List.getElem?_eq_none (by omega)]
theorem p_nums {w : World} {p : Pl} {S : Sta} (h : Sv w p S) :
  Calls Tryz.prog 32 #[sval p S] w fun e w' => e = .returned (.bool (numsB S.ino S.made)) ∧ Kept [] w w' := by
 have HW1 : Hid (∀ x ∈ S.ino, x.num ≤ 9223372036854775807) := h.w1
 obtain ⟨W0, X, HW, HB⟩ := boxS h
 have hn1 := h.n1
 have hn3 := h.n3
 unfold lim at hn1 hn3
 have x0 := HB.out.x0
 have HN : Hid (S.ino.length ≤ lim) := h.n1
 clear h
 go_enter Tryz.func32, Tryz.ntmps32
 go_upto_region 1 with fail
 rw [HW.out.1, HW.out.2]
 clear HW
 by_cases h0 : S.ino.length = 0
 ·
  have i1 : ((S.ino.length : Int) == 0) = true := by simpa using h0
  have HE : Hid (false = numsB S.ino S.made) := by
   have : S.ino = [] := List.eq_nil_of_length_eq_zero h0
   show _ = _
   rw [this]
   rfl
  clear h0
  go_wp2_with fail
  go_ret
  exact ⟨ret_bool HE.out, HB.out.k⟩
 have hpos : 0 < S.ino.length := by omega
 have i0 : ¬ (S.ino.length : Int) = 0 := by omega
 have i1 : ((S.ino.length : Int) == 0) = false := by simpa using h0
 have i2 : (0 : Int) < (S.ino.length : Int) := by omega
 obtain ⟨b, o, ae, ce, ha, q0, q1, -⟩ := HB.out.sv.ino 0 hpos
 have HA : Hid (_) := ha
 rw [Nat.zero_mul, Nat.add_zero] at q0 q1
 rw [ha] at x0
 have HI : Hid (_) := nums_iff (L := S.ino) (M := S.made)
 have HNo : Hid (¬ ((S.ino[0]).num = 1 ∧ (S.ino[0]).dir = true ∧ adj ltI S.ino = true) → false = numsB S.ino S.made) := fun hc => by
  symm
  rw [← Bool.not_eq_true]
  intro e
  obtain ⟨_, e1, e2, e3, _⟩ := HI.out.1 e
  exact hc ⟨e1, e2, e3⟩
 obtain ⟨z, hz⟩ : ∃ z, (S.ino[0]).num = z := ⟨_, rfl⟩
 obtain ⟨d, hd⟩ : ∃ d, (S.ino[0]).dir = d := ⟨_, rfl⟩
 have HZ : Hid ((S.ino[0]).num = z ∧ (S.ino[0]).dir = d) := ⟨hz, hd⟩
 rw [hz] at q0
 rw [hd] at q1
 rw [hz, hd] at HNo
 clear hz hd ha h0
 by_cases hz1 : z ≠ 1
 ·
  have b1 : (z != 1) = true := by simpa using hz1
  have HE : Hid (_) := HNo.out fun hc => hz1 hc.1
  go_wp2_with fail
  go_ret
  exact ⟨ret_bool HE.out, HB.out.k⟩
 have hz1 : z = 1 := by omega
 have b1 : (z != 1) = false := by simpa using hz1
 cases d
 ·
  have HE : Hid (_) := HNo.out fun hc => by cases hc.2.1
  go_wp2_with fail
  go_ret
  exact ⟨ret_bool HE.out, HB.out.k⟩
 have hf : (1 : Nat) = 1 := rfl
 go_wp2_with fail
 have hr := row_ino HB.out.sv.ino HN.out p.c1
 rw [HA.out] at hr
 refine hr.mono ?_
 rintro e w1 ⟨rfl, k1⟩
 have HB1 : Hid (_) := HB.out.kept k1
 have y0 := k1.cell x0 (by simp)
 clear k1 x0 q0 q1 hr
 rcases hadj : adj ltI S.ino with _ | _
 ·
  have HE : Hid (_) := HNo.out fun hc => by rw [hadj] at hc; cases hc.2.2
  clear hadj
  go_wp2_with fail
  go_ret
  exact ⟨ret_bool HE.out, HB1.out.k⟩
 have HAdj : Hid (_) := hadj
 clear hadj HNo
 have i3 : (1 : Int) ≤ (S.ino.length : Int) := by omega
 have i4 : S.ino.length ≤ p.c1 := HB1.out.sv.k1
 have HG : Hid (numsB S.ino S.made = true ↔ ∀ j (hj : j + 1 < S.ino.length), givenB S.made (S.ino[j + 1]).num = true) := by
  refine ⟨fun e => (HI.out.1 e).2.2.2.2, fun e => HI.out.2 ⟨hpos, HZ.out.1.trans hz1, HZ.out.2, HAdj.out, e⟩⟩
 have HZ0 : Hid ((S.ino[0]).num = 1) := HZ.out.1.trans hz1
 clear hz1 b1 HI HZ hf
 by_cases hc1 : p.c1 = 1
 ·
  go_wp2_with fail
  have j0 : ¬ (0 : Int) < ((S.ino.length - 1 : Nat) : Int) := by omega
  have HE : Hid (true = numsB S.ino S.made) := (HG.out.2 fun j hj => by omega).symm
  clear y0
  go_loopw [36] (fun i wr => i = .int .i64 0 ∧ wr = w1) (fun _ _ => 0)
  case atStart => exact ⟨rfl, rfl⟩
  case round =>
   obtain ⟨rfl, hw⟩ := hrel
   have hw2 := hw.symm
   subst hw2
   clear hw
   go_wp2_with fail
   go_ret
   exact ⟨ret_bool HE.out, HB1.out.k⟩
 ·
  go_wp2_with fail
  clear y0
  go_loopw [36] (fun i wr => ∃ n : Nat, i = .int .i64 (n : Int) ∧ n ≤ S.ino.length - 1 ∧ Hid (Kept [] w1 wr ∧ ∀ j (hj : j + 1 < S.ino.length), j < n → givenB S.made (S.ino[j + 1]).num = true)) (fun i _ => ((S.ino.length - 1 : Nat) - intOf i).toNat)
  case atStart => exact ⟨0, rfl, by omega, Kept.refl _ _, fun j _ hj => by omega⟩
  case round =>
   obtain ⟨n, rfl, hn, HJ⟩ := hrel
   by_cases hlt : n < S.ino.length - 1
   ·
    have j0 : (0 : Int) ≤ (n : Int) := by omega
    have j1 : (n : Int) < ((S.ino.length - 1 : Nat) : Int) := by omega
    have HB2 : Hid (_) := HB1.out.kept HJ.out.1
    obtain ⟨b', o', ae', ce', ha', q0, q1, q2, q3, -⟩ := HB2.out.sv.ino (n + 1) (by omega)
    rw [HA.out] at ha'
    simp only [Option.some.injEq, Addr.mk.injEq, and_true] at ha'
    obtain ⟨hb1, hb2⟩ := ha'
    subst hb1 hb2
    have eo : o + (n + 1) * 4 = o + 4 + n * 4 := by omega
    rw [eo] at q0 q1 q2 q3
    clear eo
    have hz2 : 2 ≤ (S.ino[n + 1]).num := by
     have := adj_lt HAdj.out 0 (n + 1) (by omega) (by omega) (by omega)
     rw [HZ0.out] at this
     omega
    have hzm : (S.ino[n + 1]).num ≤ 9223372036854775807 := HW1.out _ (List.getElem_mem _)
    have HNo : Hid (givenB S.made (S.ino[n + 1]).num = false → false = numsB S.ino S.made) := fun hc => by
     symm
     rw [← Bool.not_eq_true, HG.out]
     intro e
     rw [e n (by omega)] at hc
     cases hc
    have HYes : Hid (givenB S.made (S.ino[n + 1]).num = true → ∀ j (hj : j + 1 < S.ino.length), j < n + 1 → givenB S.made (S.ino[j + 1]).num = true) := fun hc j hj hjn => by
     by_cases e : j = n
     · subst e; exact hc
     · exact HJ.out.2 j hj (by omega)
    obtain ⟨z, hz⟩ : ∃ z, (S.ino[n + 1]).num = z := ⟨_, rfl⟩
    rw [hz] at q0 hz2 hzm HNo HYes
    clear hz
    generalize (S.ino[n + 1]).dir = d at q1
    generalize (S.ino[n + 1]).ents.length = el at q2
    generalize (S.ino[n + 1]).data = da at q3
    obtain ⟨m, hm⟩ : ∃ m : Nat, z - 2 = (m : Int) := ⟨(z - 2).toNat, by omega⟩
    have HM : Hid (z - 2 = (m : Int) ∧ z ≤ 9223372036854775807) := ⟨hm, hzm⟩
    obtain ⟨W2, Y, HWY, HK2, c0, -, -, -⟩ := box4 wr (.int .i64 z) (.bool d) (.slice ae' el ce') (.string da) 62
    have HB3 : Hid (_) := HB2.out.kept HK2.out
    have y2 := HB3.out.x2
    go_upto_region 6 with fail
    rw [HWY.out.1, HWY.out.2]
    clear HWY q0 q1 q2 q3 hm hzm hz2
    obtain ⟨cr, hcr⟩ : ∃ cr, m % 8 = cr := ⟨_, rfl⟩
    have HCo : Hid (∀ w : World, Calls Tryz.prog 52 #[.int .i64 z] w fun e w' => e = .returned (.int .i64 (cr : Int)) ∧ w' = w) := fun w => by
     have := n_core z m HM.out.1 HM.out.2 w
     rw [hcr] at this
     exact this
    have HCr : Hid (m % 8 = cr) := hcr
    clear hcr
    go_upto_region 7 with (first | (go_at_call 52; refine (HCo.out _).mono ?_; rintro e w3 ⟨rfl, hw⟩; subst hw))
    have HK3 : Hid (Kept [] w1 _) := HJ.out.1.trans HK2.out (by simp)
    have HJ2 : Hid (_) := HJ.out.1
    clear HJ
    obtain ⟨dv, hdv⟩ : ∃ dv, m / 8 = dv := ⟨_, rfl⟩
    have hc8 : cr < 8 := by have := HCr.out; omega
    have HCR : Hid (m % 8 = cr ∧ m / 8 = dv) := ⟨HCr.out, hdv⟩
    have HAh : Hid (∀ w : World, Calls Tryz.prog 53 #[.int .i64 z] w fun e w' => e = .returned (.int .i64 (dv : Int)) ∧ w' = w) := fun w => by
     have := n_ahead z m HM.out.1 HM.out.2 w
     rw [hdv] at this
     exact this
    clear hdv HJ2 HK2 HCr HCo
    by_cases hcl : cr < S.made.length
    ·
     have r1 : ¬ (S.made.length : Int) ≤ (cr : Int) := by omega
     have r2 : (0 : Int) ≤ (cr : Int) := by omega
     have r3 : (cr : Int) < (S.made.length : Int) := by omega
     obtain ⟨b3, o3, ha3, hm3⟩ := HB3.out.sv.mad cr hcl
     rw [ha3] at y2
     obtain ⟨mm, hmm⟩ : ∃ mm, S.made[cr] = mm := ⟨_, rfl⟩
     have HGv : Hid (givenB S.made z = decide ((dv : Int) < mm)) := by
      show _ = _
      have := given_in (M := S.made) HM.out.1 (by rw [HCR.out.1]; exact hcl)
      rw [this]
      simp only [HCR.out.1, HCR.out.2, hmm]
     rw [hmm] at hm3
     clear hmm ha3
     by_cases hg : (dv : Int) < mm
     ·
      have r4 : ¬ mm ≤ (dv : Int) := by omega
      have HE : Hid (_) := HYes.out (by rw [HGv.out]; simpa using hg)
      clear HYes HNo HGv HM HCR
      go_quiet (first | (go_at_call 53; exact Calls.quiet_of_same (HAh.out _)))
      go_wp2_with fail
      go_roundw
      case rel => exact ⟨n + 1, by go_num, by omega, (HK3.out.drewN _), HE.out⟩
      case measure => simp [intOf]; omega
     ·
      have r4 : mm ≤ (dv : Int) := by omega
      have HE : Hid (_) := HNo.out (by rw [HGv.out]; simpa using hg)
      clear HYes HNo HGv HM HCR
      go_quiet (first | (go_at_call 53; exact Calls.quiet_of_same (HAh.out _)))
      go_wp2_with fail
      go_ret
      exact ⟨ret_bool HE.out, ((HB1.out.k.trans HK3.out (by simp)).drewN _)⟩
    ·
     have r1 : (S.made.length : Int) ≤ (cr : Int) := by omega
     have HE : Hid (_) := HNo.out (given_out HM.out.1 (by rw [HCR.out.1]; exact hcl))
     clear HYes HNo HM HCR
     go_quiet (fail)
     go_wp2_with fail
     go_ret
     exact ⟨ret_bool HE.out, ((HB1.out.k.trans HK3.out (by simp)).drewN _)⟩
   ·
    have j1 : ¬ (n : Int) < ((S.ino.length - 1 : Nat) : Int) := by omega
    have HE : Hid (true = numsB S.ino S.made) := (HG.out.2 fun j hj => HJ.out.2 j hj (by omega)).symm
    go_wp2_with fail
    go_ret
    exact ⟨ret_bool HE.out, HB1.out.k.trans HJ.out.1 (by simp)⟩
def inB (E : List En) (b : Nat) : Nat := E.countP fun e => bkt e.1 == (b : Int)
def entB (L : List Ino) (e : En) : Bool := chk e.1 == 0 && e.2 != 1 && (atR L e.2).isSome
def entsB (L : List Ino) (E : List En) : Bool := E.all (entB L) && ((List.range 8).all fun b => decide (inB E b ≤ 4)) && adj ltE E
theorem inB_take {E : List En} {n b : Nat} (h : n < E.length) : inB (E.take (n + 1)) b = inB (E.take n) b + if bkt (E[n]).1 = (b : Int) then 1 else 0 := by
 unfold inB
 rw [List.take_succ_eq_append_getElem h, List.countP_append]
 congr 1
 by_cases e : bkt (E[n]).1 = (b : Int) <;> simp [e]
theorem inB_le {E : List En} {n b : Nat} : inB (E.take n) b ≤ inB E b := (List.take_sublist n E).countP_le
theorem ents_iff {L : List Ino} {E : List En} : entsB L E = true ↔ (∀ j (hj : j < E.length), entB L E[j] = true) ∧ (∀ b, b < 8 → inB E b ≤ 4) ∧ adj ltE E = true := by
 unfold entsB
 rw [Bool.and_eq_true, Bool.and_eq_true, List.all_eq_true, List.all_eq_true]
 constructor
 ·
  rintro ⟨⟨h1, h2⟩, h3⟩
  exact ⟨fun j hj => h1 _ (List.getElem_mem hj), fun b hb => by simpa using h2 b (List.mem_range.2 hb), h3⟩
 ·
  rintro ⟨h1, h2, h3⟩
  refine ⟨⟨fun x hx => ?_, fun b hb => by simpa using h2 b (List.mem_range.1 hb)⟩, h3⟩
  obtain ⟨j, hj, rfl⟩ := List.getElem_of_mem hx
  exact h1 j hj
theorem bucket_as (s : ByteArray) (b : Nat) (h : bkt s = (b : Int)) (w : World) : Calls Tryz.prog 77 #[.string s] w fun e w' => e = .returned (.int .i64 (b : Int)) ∧ Kept [] w w' := by
 rw [← h]
 exact n_bucket s w
def cntV (E : List En) (n : Nat) : Nat → Value := fun b => .int .i64 ((inB (E.take n) b : Nat) : Int)
theorem cntV_next {E : List En} {n b : Nat} (h : n < E.length) (hb : bkt (E[n]).1 = (b : Int)) : updV (cntV E n) b (.int .i64 ((inB (E.take n) b + 1 : Nat) : Int)) = cntV E (n + 1) := by
 funext j
 unfold updV cntV
 rw [inB_take h]
 by_cases e : j = b
 · subst e; rw [if_pos rfl, if_pos hb]
 · rw [if_neg e, if_neg (by rw [hb]; omega)]; rfl
structure Cn (w0 w : World) (B : Nat) (F : Nat → Value) : Prop where
 k : Kept [] w0 w
 here : w.heap[B]? = some (.cells (rowF 8 F) 115 (0, 0))
 lo : w0.heap.size ≤ B
theorem Cn.kept {w0 w w' : World} {B : Nat} {F : Nat → Value} (h : Cn w0 w B F) (k : Kept [] w w') : Cn w0 w' B F :=
 ⟨h.k.trans k (by simp), (k.block B (lt_of_heap h.here) (by simp)).trans h.here, h.lo⟩
theorem Cn.put {w0 w : World} {B : Nat} {F : Nat → Value} (h : Cn w0 w B F) (i : Nat) (v : Value) : Cn w0 (w.setCell ⟨B, i, none⟩ v) B (updV F i v) :=
 ⟨h.k.setCell (Or.inr h.lo) _, by rw [← rowF_set]; exact block_set h.here i v, h.lo⟩
theorem Cn.cell {w0 w : World} {B : Nat} {F : Nat → Value} (h : Cn w0 w B F) {i : Nat} (hi : i < 8) : w.cell? ⟨B, i, none⟩ = some (F i) := by
 rw [cellB h.here]; exact rowF_get F hi
theorem frozen_of {w : World} {B : Nat} {cs : Array Value} {t : TypeId} (h : w.heap[B]? = some (.cells cs t (0, 0))) (i : Nat) : w.frozen? ⟨B, i, none⟩ = false := by
 simp [World.frozen?, h]
theorem p_ents {w : World} {p : Pl} {S : Sta} (h : Sv w p S) (hT : Tab w) {a : Option Addr} {E : List En} (hE : EntA w a E) (hn : E.length ≤ lim) (c : Nat) :
  Calls Tryz.prog 54 #[sval p S, .slice a E.length c] w fun e w' => e = .returned (.bool (entsB S.ino E)) ∧ Kept [] w w' := by
 obtain ⟨W0, X, HW, HB⟩ := boxS h
 have HT : Hid (Tab W0) := hT.kept HB.out.k
 have HE : Hid (EntA W0 a E ∧ E.length ≤ lim) := ⟨hE.kept HB.out.k, hn⟩
 unfold lim at hn
 clear h hT hE
 go_enter Tryz.func54, Tryz.ntmps54
 go_upto_region 1 with fail
 rw [HW.out.1, HW.out.2]
 clear HW
 obtain ⟨W1, hW1⟩ : ∃ W1, W0.alloc (.cells #[.int .i64 0, .int .i64 0, .int .i64 0, .int .i64 0, .int .i64 0, .int .i64 0, .int .i64 0, .int .i64 0] 115 (0, 0)) = W1 := ⟨_, rfl⟩
 obtain ⟨B, hB⟩ : ∃ B, W0.heap.size = B := ⟨_, rfl⟩
 have HN : Hid (Cn W0 W1 B (cntV E 0)) := by
  rw [← hW1, ← hB]
  exact ⟨(Kept.refl [] W0).alloc _, Go.heap_alloc_new W0 _, Nat.le_refl _⟩
 have HW : Hid (_ ∧ _) := ⟨hW1, hB⟩
 clear hW1 hB
 go_upto_region 2 with fail
 rw [HW.out.1, HW.out.2]
 clear HW
 go_wp2_with fail
 go_loopw [11] (fun i wr => ∃ n : Nat, i = .int .i64 (n : Int) ∧ n ≤ E.length ∧ Hid (Cn W0 wr B (cntV E n) ∧ (∀ j (hj : j < E.length), j < n → entB S.ino E[j] = true) ∧ ∀ b, b < 8 → inB (E.take n) b ≤ 4)) (fun i _ => (E.length - intOf i).toNat)
 case atStart => exact ⟨0, rfl, by omega, HN.out, fun j _ hj => by omega, fun b _ => by simp [inB]⟩
 case round =>
  obtain ⟨n, rfl, hn, HJ⟩ := hrel
  by_cases hlt : n < E.length
  ·
   have j0 : (0 : Int) ≤ (n : Int) := by omega
   have j1 : (n : Int) < (E.length : Int) := by omega
   obtain ⟨b0, o0, ha0, q0, q1⟩ := (HE.out.1.kept HJ.out.1.k) n hlt
   subst ha0
   obtain ⟨bb, hbb⟩ : ∃ bb : Nat, bkt (E[n]).1 = (bb : Int) := ⟨(bkt (E[n]).1).toNat, by have := bkt_range (E[n]).1; omega⟩
   have hb8 : bb < 8 := by have := bkt_range (E[n]).1; omega
   have HBk : Hid (_) := hbb
   have HNx : Hid (_) := cntV_next hlt hbb
   have HTk : Hid (∀ b, inB (E.take (n + 1)) b = inB (E.take n) b + if bkt (E[n]).1 = (b : Int) then 1 else 0) := fun b => inB_take hlt
   have HNo : Hid (entB S.ino E[n] = false → false = entsB S.ino E) := fun hc => by
    symm
    rw [← Bool.not_eq_true, ents_iff]
    rintro ⟨e1, -⟩
    rw [e1 n hlt] at hc
    cases hc
   have HYes : Hid (entB S.ino E[n] = true → ∀ j (hj : j < E.length), j < n + 1 → entB S.ino E[j] = true) := fun hc j hj hjn => by
    by_cases e : j = n
    · subst e; exact hc
    · exact HJ.out.2.1 j hj (by omega)
   have HFull : Hid (4 < inB (E.take n) bb + 1 → false = entsB S.ino E) := fun hc => by
    symm
    rw [← Bool.not_eq_true, ents_iff]
    rintro ⟨-, e2, -⟩
    have h1 := e2 bb hb8
    have h2 := inB_le (E := E) (n := n + 1) (b := bb)
    rw [HTk.out, if_pos HBk.out] at h2
    omega
   have hk4 : inB (E.take n) bb ≤ 4 := HJ.out.2.2 bb hb8
   have HEnt : Hid (entB S.ino E[n] = (chk (E[n]).1 == 0 && (E[n]).2 != 1 && (atR S.ino (E[n]).2).isSome)) := rfl
   obtain ⟨t, ht⟩ : ∃ t, (E[n]).1 = t := ⟨_, rfl⟩
   obtain ⟨z, hz⟩ : ∃ z, (E[n]).2 = z := ⟨_, rfl⟩
   rw [ht] at q0 hbb HEnt
   rw [hz] at q1 HEnt
   have HBt : Hid (bkt t = (bb : Int)) := hbb
   obtain ⟨k, hk⟩ : ∃ k, inB (E.take n) bb = k := ⟨_, rfl⟩
   have HKk : Hid (_) := hk
   rw [hk] at hk4 HFull HNx
   clear ht hz hbb hk
   obtain ⟨W2, Y, HWY, HK2, c0, c1⟩ := box2 wr (.string t) (.int .i64 z) 64
   have HC2 : Hid (_) := HJ.out.1.kept HK2.out
   go_upto_region 5 with fail
   rw [HWY.out.1, HWY.out.2]
   clear HWY q0 q1 HK2
   go_upto_region 6 with (first | (go_at_call 77; refine (bucket_as t bb HBt.out _).mono ?_; rintro e w3 ⟨rfl, k3⟩))
   have HC3 : Hid (_) := HC2.out.kept k3
   have d0 := k3.cell c0 (by simp)
   have d1 := k3.cell c1 (by simp)
   have e0 : (0 : Int) ≤ (bb : Int) := by omega
   have e1 : (bb : Int) < 8 := by omega
   have e2 : w3.cell? ⟨B, bb, none⟩ = some (.int .i64 (k : Int)) := by rw [HC3.out.cell hb8]; unfold cntV; rw [HKk.out]
   have e3 := frozen_of HC3.out.here bb
   obtain ⟨W4, hW4⟩ : ∃ W4, w3.setCell ⟨B, bb, none⟩ (.int .i64 ((k : Int) + 1)) = W4 := ⟨_, rfl⟩
   have HC4 : Hid (Cn W0 W4 B (cntV E (n + 1))) := by
    rw [← hW4, ← HNx.out]
    exact HC3.out.put bb _
   have HY : Hid (Y ≠ B) := fun e => by
    rw [e] at d0
    have := HC3.out.cell (i := 0) (by omega)
    rw [d0] at this
    unfold cntV at this
    cases this
   have f0 : W4.cell? ⟨Y, 0, none⟩ = some (.string t) := by
    rw [← hW4, World.cell?_of_block (a := ⟨Y, 0, none⟩) (block_other HY.out)]; exact d0
   have f1 : W4.cell? ⟨Y, 1, none⟩ = some (.int .i64 z) := by
    rw [← hW4, World.cell?_of_block (a := ⟨Y, 1, none⟩) (block_other HY.out)]; exact d1
   have HW4 : Hid (_) := hW4
   clear hW4 k3 c0 c1 HC2
   go_upto_region 7 with fail
   rw [HW4.out]
   clear HW4 e2 e3 d0 d1 HC3 HNx
   have g2 : W4.cell? ⟨B, bb, none⟩ = some (.int .i64 ((k : Int) + 1)) := by
    rw [HC4.out.cell hb8]
    unfold cntV
    rw [HTk.out, if_pos HBk.out, HKk.out]
    rfl
   have HB4 : Hid (_) := HB.out.kept HC4.out.k
   have HK4 : Hid (Kept [] w W4) := HB4.out.k
   by_cases h4 : 4 < k + 1
   ·
    have r4 : (4 : Int) < (k : Int) + 1 := by omega
    have HR : Hid (_) := HFull.out h4
    clear HFull HNo HYes HEnt HTk
    go_wp2_with fail
    go_ret
    exact ⟨ret_bool HR.out, HK4.out⟩
   have r4 : ¬ (4 : Int) < (k : Int) + 1 := by omega
   have HCnt : Hid (∀ b, b < 8 → inB (E.take (n + 1)) b ≤ 4) := fun b hb => by
    rw [HTk.out]
    by_cases e : bkt (E[n]).1 = (b : Int)
    ·
     have : b = bb := by have := HBk.out; omega
     subst this
     rw [if_pos e, HKk.out]
     omega
    ·
     rw [if_neg e]
     exact HJ.out.2.2 b hb
   clear HFull HTk HJ
   go_wp2_with fail
   refine (n_may t W4 (HT.out.kept HC4.out.k)).mono ?_
   rintro e w5 ⟨rfl, k5⟩
   have f5 := k5.cell f1 (by simp)
   have HC5 : Hid (_) := HC4.out.kept k5
   have HB5 : Hid (_) := HB4.out.kept k5
   have HK5 : Hid (Kept [] w w5) := HB5.out.k
   clear f0 f1 g2 k5 HC4 HB4 HK4
   obtain ⟨ck, hck⟩ : ∃ ck, chk t = ck := ⟨_, rfl⟩
   rw [hck] at HEnt ⊢
   clear hck
   by_cases hc0 : ck = 0
   ·
    have b5 : (ck == 0) = true := by simpa using hc0
    rw [b5] at HEnt ⊢
    by_cases hz1 : z = 1
    ·
     have b6 : (z == 1) = true := by simpa using hz1
     have HR : Hid (_) := HNo.out (by rw [HEnt.out, hz1]; rfl)
     clear HNo HYes HEnt hz1
     go_wp2_with fail
     go_ret
     exact ⟨ret_bool HR.out, HK5.out⟩
    ·
     have b6 : (z == 1) = false := by simpa using hz1
     have b7 : (z != 1) = true := by simpa using hz1
     rw [b7] at HEnt
     have x0 := HB5.out.x0
     have x1 := HB5.out.x1
     have x2 := HB5.out.x2
     rcases hat : atR S.ino z with _ | i
     ·
      have HR : Hid (_) := HNo.out (by rw [HEnt.out, hat]; rfl)
      have HAt : Hid (_) := hat
      clear HNo HYes HEnt hat
      go_wp2_with fail
      refine (p_inode_none HB5.out.sv z HAt.out).mono ?_
      rintro e w6 ⟨rfl, k6⟩
      have HK6 : Hid (Kept [] w w6) := HK5.out.trans k6 (by simp)
      clear k6
      go_wp2_with fail
      go_ret
      exact ⟨ret_bool HR.out, HK6.out⟩
     ·
      have HR : Hid (_) := HYes.out (by rw [HEnt.out, hat]; rfl)
      obtain ⟨hi, -⟩ := at_get hat
      obtain ⟨b8, o8, ae8, ce8, ha8, -⟩ := HB5.out.sv.ino i hi
      have HAt : Hid (atR S.ino z = some i ∧ p.a1 = some ⟨b8, o8, none⟩) := ⟨hat, ha8⟩
      clear HNo HYes HEnt hat ha8
      go_wp2_with fail
      refine (p_inode_some HB5.out.sv z HAt.out.1 HAt.out.2).mono ?_
      rintro e w6 ⟨rfl, k6⟩
      have HC6 : Hid (_) := HC5.out.kept k6
      clear k6
      go_wp2_with fail
      go_roundw
      case rel => exact ⟨n + 1, by go_num, by omega, HC6.out, HR.out, HCnt.out⟩
      case measure => simp [intOf]; omega
   ·
    have b5 : (ck == 0) = false := by simpa using hc0
    rw [b5] at HEnt ⊢
    have HR : Hid (_) := HNo.out (by rw [HEnt.out]; rfl)
    clear HNo HYes HEnt
    go_wp2_with fail
    go_ret
    exact ⟨ret_bool HR.out, HK5.out⟩
  ·
   have j1 : ¬ (n : Int) < (E.length : Int) := by omega
   have HAll : Hid ((∀ j (hj : j < E.length), entB S.ino E[j] = true) ∧ ∀ b, b < 8 → inB E b ≤ 4) := by
    refine ⟨fun j hj => HJ.out.2.1 j hj (by omega), fun b hb => ?_⟩
    have := HJ.out.2.2 b hb
    rw [List.take_of_length_le (by omega)] at this
    exact this
   have HK : Hid (Kept [] w _) := HB.out.k.trans HJ.out.1.k (by simp)
   have HJ1 : Hid (_) := HJ.out.1.k
   clear HJ
   go_wp2_with fail
   refine (row_ent (HE.out.1.kept HJ1.out) HE.out.2 c).mono ?_
   rintro e w9 ⟨rfl, k9⟩
   have HK9 : Hid (Kept [] w w9) := HK.out.trans k9 (by simp)
   have HR : Hid (adj ltE E = entsB S.ino E) := by
    show _ = _
    rcases hadj : adj ltE E with _ | _
    ·
     symm
     rw [← Bool.not_eq_true, ents_iff]
     rintro ⟨-, -, e3⟩
     rw [hadj] at e3
     cases e3
    ·
     symm
     rw [ents_iff]
     exact ⟨HAll.out.1, HAll.out.2, hadj⟩
   clear k9
   generalize adj ltE E = r at *
   go_wp2_with fail
   go_ret
   exact ⟨ret_bool HR.out, HK9.out⟩
end Go.Proofs.YtffncojcnbhblaaGreatDoor
