/-
  The law's own flush.
-/
import Derived.Test.YtljmpcmkgeomiaaMd
import Derived.BigRegion
namespace Go.Proofs.Ytljmpcmkgeomiaa
open Go.RowKit
set_option linter.unusedVariables false

theorem gather_zero (m : Mo) (k n c : Nat) : Eqv k n m (m.gather c 0) :=
  ⟨fun c' o _ _ => by simp [Mo.gather], fun o _ => by simp [Mo.gather], fun _ _ => rfl, fun o _ => by simp [Mo.gather], fun _ _ => rfl, fun _ _ => rfl, fun _ _ => rfl, rfl⟩

theorem gather_part (m : Mo) (c j : Nat) : (m.gather c j).parts c j = m.parts c j := if_neg (by omega)
theorem gather_glob (m : Mo) (c j : Nat) : (m.gather c j).glob j = m.glob j := if_neg (by omega)

theorem gather_no (m : Mo) (k n c j : Nat) (hz : m.parts c j = 0) : Eqv k n (m.gather c j) (m.gather c (j + 1)) := by
  refine ⟨fun c' o _ _ => ?_, fun o _ => ?_, fun _ _ => rfl, fun o _ => ?_, fun _ _ => rfl, fun _ _ => rfl, fun _ _ => rfl, rfl⟩
  · show (if c' = c ∧ o < j then 0 else m.parts c' o) = if c' = c ∧ o < j + 1 then 0 else m.parts c' o
    by_cases e : c' = c ∧ o = j
    · rw [if_neg (by omega), if_pos (by omega), e.1, e.2, hz]
    · by_cases q : c' = c ∧ o < j
      · rw [if_pos q, if_pos (by omega)]
      · rw [if_neg q, if_neg (by omega)]
  · show (if o < j ∧ m.parts c o ≠ 0 then wrap64 (m.glob o + m.parts c o) else m.glob o) = if o < j + 1 ∧ m.parts c o ≠ 0 then wrap64 (m.glob o + m.parts c o) else m.glob o
    by_cases e : o = j
    · subst e; rw [if_neg (by omega), if_neg (fun q => q.2 hz)]
    · by_cases q : o < j ∧ m.parts c o ≠ 0
      · rw [if_pos q, if_pos (And.intro (by omega) q.2)]
      · rw [if_neg q, if_neg (fun q2 => q ⟨by omega, q2.2⟩)]
  · show (if o < j ∧ m.parts c o ≠ 0 then true else m.added o) = if o < j + 1 ∧ m.parts c o ≠ 0 then true else m.added o
    by_cases e : o = j
    · subst e; rw [if_neg (by omega), if_neg (fun q => q.2 hz)]
    · by_cases q : o < j ∧ m.parts c o ≠ 0
      · rw [if_pos q, if_pos (And.intro (by omega) q.2)]
      · rw [if_neg q, if_neg (fun q2 => q ⟨by omega, q2.2⟩)]

theorem gather_yes (m : Mo) (k n c j : Nat) (hz : m.parts c j ≠ 0) : Eqv k n { m.gather c j with glob := fun o' => if o' = j then wrap64 (m.glob j + m.parts c j) else (m.gather c j).glob o', parts := fun c' o' => if c' = c ∧ o' = j then 0 else (m.gather c j).parts c' o', added := fun o' => if o' = j then true else (m.gather c j).added o' } (m.gather c (j + 1)) := by
  refine ⟨fun c' o _ _ => ?_, fun o _ => ?_, fun _ _ => rfl, fun o _ => ?_, fun _ _ => rfl, fun _ _ => rfl, fun _ _ => rfl, rfl⟩
  · show (if c' = c ∧ o = j then 0 else if c' = c ∧ o < j then 0 else m.parts c' o) = if c' = c ∧ o < j + 1 then 0 else m.parts c' o
    by_cases e : c' = c ∧ o = j
    · rw [if_pos e, if_pos (by omega)]
    · rw [if_neg e]
      by_cases q : c' = c ∧ o < j
      · rw [if_pos q, if_pos (by omega)]
      · rw [if_neg q, if_neg (by omega)]
  · show (if o = j then wrap64 (m.glob j + m.parts c j) else if o < j ∧ m.parts c o ≠ 0 then wrap64 (m.glob o + m.parts c o) else m.glob o) = if o < j + 1 ∧ m.parts c o ≠ 0 then wrap64 (m.glob o + m.parts c o) else m.glob o
    by_cases e : o = j
    · subst e; rw [if_pos rfl, if_pos (And.intro (by omega) hz)]
    · rw [if_neg e]
      by_cases q : o < j ∧ m.parts c o ≠ 0
      · rw [if_pos q, if_pos (And.intro (by omega) q.2)]
      · rw [if_neg q, if_neg (fun q2 => q ⟨by omega, q2.2⟩)]
  · show (if o = j then true else if o < j ∧ m.parts c o ≠ 0 then true else m.added o) = if o < j + 1 ∧ m.parts c o ≠ 0 then true else m.added o
    by_cases e : o = j
    · subst e; rw [if_pos rfl, if_pos (And.intro (by omega) hz)]
    · rw [if_neg e]
      by_cases q : o < j ∧ m.parts c o ≠ 0
      · rw [if_pos q, if_pos (And.intro (by omega) q.2)]
      · rw [if_neg q, if_neg (fun q2 => q ⟨by omega, q2.2⟩)]

/-- The test of an epoch's end. -/
def Mo.dies (m : Mo) (o : Nat) : Bool := m.zero o && (!m.added o && (m.glob o == 0 && m.ever o))

theorem look_zero (m : Mo) (k n : Nat) : Eqv k n m (m.look 0) :=
  ⟨fun _ _ _ _ => rfl, fun _ _ => rfl, fun _ _ => rfl, fun o _ => by simp [Mo.look], fun o _ => by simp [Mo.look], fun _ _ => rfl, fun o _ => by simp [Mo.look], rfl⟩

theorem look_z (m : Mo) (j : Nat) : (m.look j).zero j = m.zero j ∧ (m.look j).added j = m.added j := ⟨if_neg (by omega), if_neg (by omega)⟩

theorem look_step (m : Mo) (k n j : Nat) (d : Nat → Bool) (hd : ∀ o, d o = if o = j ∧ m.dies j = true then true else (m.look j).dead o) : Eqv k n { m.look j with dead := d, zero := fun o' => if o' = j then m.glob j == 0 else (m.look j).zero o', added := fun o' => if o' = j then false else (m.look j).added o' } (m.look (j + 1)) := by
  refine ⟨fun _ _ _ _ => rfl, fun _ _ => rfl, fun _ _ => rfl, fun o _ => ?_, fun o _ => ?_, fun _ _ => rfl, fun o _ => ?_, rfl⟩
  · show (if o = j then false else if o < j then false else m.added o) = if o < j + 1 then false else m.added o
    by_cases e : o = j
    · rw [if_pos e, if_pos (by omega)]
    · rw [if_neg e]
      by_cases q : o < j
      · rw [if_pos q, if_pos (by omega)]
      · rw [if_neg q, if_neg (by omega)]
  · show (if o = j then m.glob j == 0 else if o < j then m.glob o == 0 else m.zero o) = if o < j + 1 then m.glob o == 0 else m.zero o
    by_cases e : o = j
    · subst e; rw [if_pos rfl, if_pos (by omega)]
    · rw [if_neg e]
      by_cases q : o < j
      · rw [if_pos q, if_pos (by omega)]
      · rw [if_neg q, if_neg (by omega)]
  · show d o = if o < j + 1 ∧ m.dies o = true then true else m.dead o
    rw [hd o]
    show (if o = j ∧ m.dies j = true then true else if o < j ∧ m.dies o = true then true else m.dead o) = _
    by_cases e : o = j
    · subst e
      by_cases q : m.dies o = true
      · rw [if_pos ⟨rfl, q⟩, if_pos (And.intro (by omega) q)]
      · rw [if_neg (fun q2 => q q2.2), if_neg (by omega), if_neg (fun q2 => q q2.2)]
    · rw [if_neg (fun q => e q.1)]
      by_cases q : o < j ∧ m.dies o = true
      · rw [if_pos q, if_pos (And.intro (by omega) q.2)]
      · rw [if_neg q, if_neg (fun q2 => q ⟨by omega, q2.2⟩)]

/-- The counts when the flags of the cores below j are down. -/
def Mo.down (m : Mo) (j : Nat) : Mo := { m with flu := fun c => if c < j then false else m.flu c }

theorem down_zero (m : Mo) (k n : Nat) : Eqv k n m (m.down 0) :=
  ⟨fun _ _ _ _ => rfl, fun _ _ => rfl, fun o _ => by simp [Mo.down], fun _ _ => rfl, fun _ _ => rfl, fun _ _ => rfl, fun _ _ => rfl, rfl⟩

theorem down_step (m : Mo) (k n j : Nat) : Eqv k n { m.down j with flu := fun c' => if c' = j then false else (m.down j).flu c' } (m.down (j + 1)) := by
  refine ⟨fun _ _ _ _ => rfl, fun _ _ => rfl, fun o _ => ?_, fun _ _ => rfl, fun _ _ => rfl, fun _ _ => rfl, fun _ _ => rfl, rfl⟩
  show (if o = j then false else if o < j then false else m.flu o) = if o < j + 1 then false else m.flu o
  by_cases e : o = j
  · rw [if_pos e, if_pos (by omega)]
  · rw [if_neg e]
    by_cases q : o < j
    · rw [if_pos q, if_pos (by omega)]
    · rw [if_neg q, if_neg (by omega)]

theorem Kept.mset {p : Nat → Nat} {k : Nat} {w w' : World} (h : Kept (mB p k) w w') (i : Nat) (hi : i < 8 + k) (q : Nat) (v : Value) : Kept (mB p k) w (w'.setCell ⟨p i, q, none⟩ v) :=
  h.setCell (Or.inl (mem_mB.2 ⟨i, hi, rfl⟩)) v

set_option maxRecDepth 100000 in
set_option maxHeartbeats 8000000 in
theorem p_flush {w : World} {p : Nat → Nat} {k n : Nat} {m : Mo} (h : Md w p k n m) (c : Nat) (hc : c < k) (k8 : k ≤ 8) (n64 : n ≤ 64) (he : m.epoch < 100000) :
    Calls Try.prog 13 #[.pointer (some ⟨p 0, 0, none⟩), .int .i64 (c : Int)] w fun e w' => e = .returned (.tuple #[]) ∧ Kept (mB p k) w w' ∧ Md w' p k n (m.flush n k c) := by
  have H0 : Hid (_) := h
  clear h
  go_enter Try.func13, Try.ntmps13
  go_wp2_with fail
  go_loopw [4] (fun i wr => ∃ j : Nat, i = .int .i64 (j : Int) ∧ j ≤ n ∧ Hid (Kept (mB p k) w wr ∧ Md wr p k n (m.gather c j))) (fun i _ => (n - intOf i).toNat)
  case atStart => exact ⟨0, rfl, by omega, Kept.refl _ _, H0.out.as (gather_zero m k n c)⟩
  case round =>
    clear H0
    obtain ⟨j, rfl, hj, HJ⟩ := hrel
    obtain ⟨c0, c1, c2, c3, c4, c5, c6, c7⟩ := Md.main HJ.out.2
    have i2 : (c : Int) < (k : Int) := by omega
    have i3 : (0 : Int) ≤ (c : Int) := by omega
    by_cases hlt : j < n
    · have i0 : (j : Int) < (n : Int) := by omega
      have i1 : (0 : Int) ≤ (j : Int) := by omega
      have q1 := Md.row HJ.out.2 c hc
      have q2 := Md.part HJ.out.2 c j hc hlt
      have q3 := Md.glob HJ.out.2 j hlt
      rw [gather_part] at q2
      rw [gather_glob] at q3
      have z1 := Md.frozen HJ.out.2 2 (by omega) j
      by_cases hz : m.parts c j = 0
      · have H2 : Hid (_ ∧ _) := ⟨HJ.out.1, Md.as HJ.out.2 (gather_no m k n c j hz)⟩
        rw [hz] at q2
        clear HJ hz
        go_wp2
        go_roundw
        case rel => exact ⟨j + 1, by go_num, by omega, H2.out⟩
        case measure => simp [intOf]; omega
      · have t1 : (m.parts c j != 0) = true := by simpa using hz
        have HZ : Hid (_) := hz
        clear hz
        go_wp2_with fail
        go_region
        clear c0 c1 c2 c3 c4 c5 c6 c7 q1 q2 q3 z1
        obtain ⟨W2, hW2⟩ : ∃ W2, W2 = (wr.setCell ⟨p 2, j, none⟩ (.int .i64 (wrap64 (m.glob j + m.parts c j)))).drew := ⟨_, rfl⟩
        rw [← hW2]
        have H2 : Hid (_ ∧ _) := ⟨(Kept.mset HJ.out.1 2 (by omega) j (.int .i64 (wrap64 (m.glob j + m.parts c j)))).drew, (Md.setGlob HJ.out.2 j (wrap64 (m.glob j + m.parts c j))).drew⟩
        rw [← hW2] at H2
        clear hW2 HJ
        obtain ⟨c0, c1, c2, c3, c4, c5, c6, c7⟩ := Md.main H2.out.2
        have q1 := Md.row H2.out.2 c hc
        have z1 := Md.frozen H2.out.2 (8 + c) (by omega) j
        have y1 := Md.part H2.out.2 c j hc hlt
        have H3 : Hid (_ ∧ _) := ⟨Kept.mset H2.out.1 (8 + c) (by omega) j (.int .i64 0), Md.setPart H2.out.2 c j hc 0⟩
        obtain ⟨d0, d1, d2, d3, d4, d5, d6, d7⟩ := Md.main H3.out.2
        have z2 := Md.frozen H3.out.2 4 (by omega) j
        have y2 := Md.added H3.out.2 j hlt
        have H4 : Hid (_ ∧ _) := ⟨Kept.mset H3.out.1 4 (by omega) j (.bool true), Md.as (Md.setAdded H3.out.2 j true) (gather_yes m k n c j HZ.out)⟩
        clear H2 H3
        go_wp2
        go_roundw
        case rel => exact ⟨j + 1, by go_num, by omega, H4.out⟩
        case measure => simp [intOf]; omega
    · have e : j = n := by omega
      subst e
      have z1 := Md.frozen HJ.out.2 3 (by omega) c
      have y1 := Md.flu HJ.out.2 c hc
      go_wp2_with fail
      clear c0 c1 c2 c3 c4 c5 c6 c7 z1 y1
      obtain ⟨W3, hW3⟩ : ∃ W3, W3 = wr.setCell ⟨p 3, c, none⟩ (.bool true) := ⟨_, rfl⟩
      rw [← hW3]
      have H3 : Hid (_ ∧ Md (wr.setCell ⟨p 3, c, none⟩ (.bool true)) p k j (m.flushed c j)) := ⟨Kept.mset HJ.out.1 3 (by omega) c (.bool true), Md.setFlu HJ.out.2 c true⟩
      rw [← hW3] at H3
      clear hW3 HJ
      go_loopw [5] (fun i wr => ∃ r : Nat, i = .int .i64 (r : Int) ∧ r ≤ k ∧ wr = W3 ∧ Hid (∀ c', c' < r → (m.flushed c j).flu c' = true)) (fun i _ => (k - intOf i).toNat)
      case atStart => exact ⟨0, rfl, by omega, rfl, fun c' hc' => by omega⟩
      case round =>
        obtain ⟨r, rfl, hr, rfl, HA⟩ := hrel
        obtain ⟨c0, c1, c2, c3, c4, c5, c6, c7⟩ := Md.main H3.out.2
        by_cases hlr : r < k
        · have i0 : (r : Int) < (k : Int) := by omega
          have i1 : (0 : Int) ≤ (r : Int) := by omega
          have q1 := Md.flu H3.out.2 r hlr
          cases hf : (m.flushed c j).flu r
          · rw [hf] at q1
            have HN : Hid (m.flush j k c = m.flushed c j) := if_neg (fun ha => by have := ha r hlr; rw [hf] at this; cases this)
            clear hf HA
            go_wp2_with fail
            (try simp only [Exit.inBlock, Exit.then])
            refine bodyPost_ret (results_none rfl _ _ _) rfl ?_
            exact ⟨rfl, H3.out.1, by rw [HN.out]; exact H3.out.2⟩
          · rw [hf] at q1
            have HN : Hid (∀ c', c' < r + 1 → (m.flushed c j).flu c' = true) := fun c' hc' => by
              rcases Nat.lt_succ_iff_lt_or_eq.1 hc' with h3 | h3
              · exact HA.out c' h3
              · rw [h3]; exact hf
            clear hf HA
            go_wp2
            go_roundw
            case rel => exact ⟨r + 1, by go_num, by omega, trivial, HN⟩
            case measure => simp [intOf]; omega
        · have er : r = k := by omega
          have HN : Hid (m.flush j k c = (m.flushed c j).ended j k) := if_pos (fun c' hc' => HA.out c' (by omega))
          subst er
          clear HA
          have z1 := Md.frozen H3.out.2 0 (by omega) 7
          have hw : wrap64 (((m.flushed c j).epoch : Int) + 1) = ((m.epoch + 1 : Nat) : Int) := by
            show wrap64 ((m.epoch : Int) + 1) = _
            rw [wrap_small _ (by omega) (by omega)]; omega
          have HW : Hid (_) := hw
          clear hw
          go_wp2_with fail
          clear c0 c1 c2 c3 c4 c5 c6 c7 z1
          rw [HW.out]
          obtain ⟨W4, hW4⟩ : ∃ W4, W4 = wr.setCell ⟨p 0, 7, none⟩ (.int .i64 ((m.epoch + 1 : Nat) : Int)) := ⟨_, rfl⟩
          rw [show (wr.setCell ⟨p 0, 7, none⟩ (.int .i64 ((m.epoch + 1 : Nat) : Int))) = W4 from hW4.symm]
          have H4 : Hid (Kept (mB p r) w (wr.setCell ⟨p 0, 7, none⟩ (.int .i64 ((m.epoch + 1 : Nat) : Int))) ∧ Md (wr.setCell ⟨p 0, 7, none⟩ (.int .i64 ((m.epoch + 1 : Nat) : Int))) p r j { m.flushed c j with epoch := m.epoch + 1 }) := ⟨Kept.mset H3.out.1 0 (by omega) 7 _, Md.setEpoch H3.out.2 (m.epoch + 1) _ rfl⟩
          rw [← hW4] at H4
          obtain ⟨ME, hME⟩ : ∃ ME : Mo, ME = { m.flushed c j with epoch := m.epoch + 1 } := ⟨_, rfl⟩
          rw [← hME] at H4
          have HM : Hid (_) := hME
          clear hME hW4 H3 HW
          go_loopw [6] (fun x wi => ∃ i : Nat, x = .int .i64 (i : Int) ∧ i ≤ j ∧ Hid (Kept (mB p r) w wi ∧ Md wi p r j (ME.look i))) (fun x _ => (j - intOf x).toNat)
          case atStart => exact ⟨0, rfl, by omega, H4.out.1, H4.out.2.as (look_zero ME r j)⟩
          case round =>
            clear H4
            obtain ⟨i, rfl, hi, HJ⟩ := hrel
            by_cases hli : i < j
            · obtain ⟨c0, c1, c2, c3, c4, c5, c6, c7⟩ := Md.main HJ.out.2
              have i0 : (i : Int) < (j : Int) := by omega
              have i1 : (0 : Int) ≤ (i : Int) := by omega
              have q1 := Md.zero HJ.out.2 i hli
              have q2 := Md.added HJ.out.2 i hli
              have q3 : wr.cell? ⟨p 2, i, none⟩ = some (.int .i64 (ME.glob i)) := Md.glob HJ.out.2 i hli
              have q4 : wr.cell? ⟨p 6, i, none⟩ = some (.bool (ME.ever i)) := Md.ever HJ.out.2 i hli
              rw [(look_z ME i).1] at q1
              rw [(look_z ME i).2] at q2
              cases hz : ME.zero i
              · rw [hz] at q1
                have HD : Hid (∀ o, (ME.look i).dead o = if o = i ∧ ME.dies i = true then true else (ME.look i).dead o) := fun o => (if_neg (fun q => by have := q.2; simp [Mo.dies, hz] at this)).symm
                have y5 := Md.zero HJ.out.2 i hli
                have z5 := Md.frozen HJ.out.2 5 (by omega) i
                go_wp2_with fail
                go_region
                clear c0 c1 c2 c3 c4 c5 c6 c7 q1 q2 q3 q4 y5 z5
                obtain ⟨W5, hW5⟩ : ∃ W5, W5 = (wr.setCell ⟨p 5, i, none⟩ (.bool (ME.glob i == 0))).drew := ⟨_, rfl⟩
                rw [← hW5]
                have H5 : Hid (_ ∧ _) := ⟨(Kept.mset HJ.out.1 5 (by omega) i (.bool (ME.glob i == 0))).drew, (Md.setZero HJ.out.2 i (ME.glob i == 0)).drew⟩
                rw [← hW5] at H5
                clear hW5
                obtain ⟨c0, c1, c2, c3, c4, c5, c6, c7⟩ := Md.main H5.out.2
                have y4 := Md.added H5.out.2 i hli
                have z4 := Md.frozen H5.out.2 4 (by omega) i
                have H6 : Hid (_ ∧ _) := ⟨Kept.mset H5.out.1 4 (by omega) i (.bool false), Md.as (Md.setAdded H5.out.2 i false) (look_step ME r j i _ (fun o => HD.out o))⟩
                clear HJ H5
                go_wp2
                go_roundw
                case rel => exact ⟨i + 1, by go_num, by omega, H6.out⟩
                case measure => simp [intOf]; omega
              · rw [hz] at q1
                cases ha : ME.added i
                · rw [ha] at q2
                  by_cases hg : ME.glob i = 0
                  · cases hv : ME.ever i
                    · rw [hv] at q4
                      have tg : (ME.glob i == 0) = true := by simpa using hg
                      have HD : Hid (∀ o, (ME.look i).dead o = if o = i ∧ ME.dies i = true then true else (ME.look i).dead o) := fun o => (if_neg (fun q => by have := q.2; simp [Mo.dies, hz, ha, hg, hv] at this)).symm
                      clear hg
                      have y5 := Md.zero HJ.out.2 i hli
                      have z5 := Md.frozen HJ.out.2 5 (by omega) i
                      go_wp2_with fail
                      go_region
                      clear c0 c1 c2 c3 c4 c5 c6 c7 q1 q2 q3 q4 y5 z5
                      obtain ⟨W5, hW5⟩ : ∃ W5, W5 = (wr.setCell ⟨p 5, i, none⟩ (.bool (ME.glob i == 0))).drew := ⟨_, rfl⟩
                      rw [show (wr.setCell ⟨p 5, i, none⟩ (.bool true)).drew = W5 from by rw [hW5, tg]]
                      have H5 : Hid (_ ∧ _) := ⟨(Kept.mset HJ.out.1 5 (by omega) i (.bool (ME.glob i == 0))).drew, (Md.setZero HJ.out.2 i (ME.glob i == 0)).drew⟩
                      rw [← hW5] at H5
                      clear hW5
                      obtain ⟨c0, c1, c2, c3, c4, c5, c6, c7⟩ := Md.main H5.out.2
                      have y4 := Md.added H5.out.2 i hli
                      have z4 := Md.frozen H5.out.2 4 (by omega) i
                      have H6 : Hid (_ ∧ _) := ⟨Kept.mset H5.out.1 4 (by omega) i (.bool false), Md.as (Md.setAdded H5.out.2 i false) (look_step ME r j i _ (fun o => HD.out o))⟩
                      clear HJ H5
                      go_wp2
                      go_roundw
                      case rel => exact ⟨i + 1, by go_num, by omega, H6.out⟩
                      case measure => simp [intOf]; omega
                    · rw [hv] at q4
                      have tg : (ME.glob i == 0) = true := by simpa using hg
                      have HT : Hid (ME.dies i = true) := by show ME.dies i = true; simp [Mo.dies, hz, ha, hg, hv]
                      have y7 := Md.dead HJ.out.2 i hli
                      have z7 := Md.frozen HJ.out.2 7 (by omega) i
                      clear hz ha hv hg
                      go_wp2_with fail
                      clear c0 c1 c2 c3 c4 c5 c6 c7 q1 q2 q3 q4 y7 z7
                      obtain ⟨W6, hW6⟩ : ∃ W6, W6 = wr.setCell ⟨p 7, i, none⟩ (.bool true) := ⟨_, rfl⟩
                      rw [← hW6]
                      have H7 : Hid (_ ∧ _) := ⟨Kept.mset HJ.out.1 7 (by omega) i (.bool true), Md.setDead HJ.out.2 i true⟩
                      rw [← hW6] at H7
                      clear hW6 HJ
                      have HJ := H7
                      clear H7
                      obtain ⟨c0, c1, c2, c3, c4, c5, c6, c7⟩ := Md.main HJ.out.2
                      have q1 : True := trivial
                      have q2 : True := trivial
                      have q4 : True := trivial
                      have q3 : W6.cell? ⟨p 2, i, none⟩ = some (.int .i64 (ME.glob i)) := Md.glob HJ.out.2 i hli
                      have HD : Hid (∀ o, (if o = i then true else (ME.look i).dead o) = if o = i ∧ ME.dies i = true then true else (ME.look i).dead o) := fun o => by
                        by_cases e : o = i
                        · rw [if_pos e, if_pos (And.intro e HT.out)]
                        · rw [if_neg e, if_neg (fun q => e q.1)]
                      have y5 := Md.zero HJ.out.2 i hli
                      have z5 := Md.frozen HJ.out.2 5 (by omega) i
                      go_region
                      clear c0 c1 c2 c3 c4 c5 c6 c7 q1 q2 q3 q4 y5 z5
                      obtain ⟨W5, hW5⟩ : ∃ W5, W5 = (W6.setCell ⟨p 5, i, none⟩ (.bool (ME.glob i == 0))).drew := ⟨_, rfl⟩
                      rw [show (W6.setCell ⟨p 5, i, none⟩ (.bool true)).drew = W5 from by rw [hW5, tg]]
                      have H5 : Hid (_ ∧ _) := ⟨(Kept.mset HJ.out.1 5 (by omega) i (.bool (ME.glob i == 0))).drew, (Md.setZero HJ.out.2 i (ME.glob i == 0)).drew⟩
                      rw [← hW5] at H5
                      clear hW5
                      obtain ⟨c0, c1, c2, c3, c4, c5, c6, c7⟩ := Md.main H5.out.2
                      have y4 := Md.added H5.out.2 i hli
                      have z4 := Md.frozen H5.out.2 4 (by omega) i
                      have H6 : Hid (_ ∧ _) := ⟨Kept.mset H5.out.1 4 (by omega) i (.bool false), Md.as (Md.setAdded H5.out.2 i false) (look_step ME r j i _ (fun o => HD.out o))⟩
                      clear HJ H5
                      go_wp2
                      go_roundw
                      case rel => exact ⟨i + 1, by go_num, by omega, H6.out⟩
                      case measure => simp [intOf]; omega
                  · have tg : (ME.glob i == 0) = false := by simpa using hg
                    have HD : Hid (∀ o, (ME.look i).dead o = if o = i ∧ ME.dies i = true then true else (ME.look i).dead o) := fun o => (if_neg (fun q => by have := q.2; simp [Mo.dies, hz, ha, hg] at this)).symm
                    clear hg
                    have y5 := Md.zero HJ.out.2 i hli
                    have z5 := Md.frozen HJ.out.2 5 (by omega) i
                    go_wp2_with fail
                    go_region
                    clear c0 c1 c2 c3 c4 c5 c6 c7 q1 q2 q3 q4 y5 z5
                    obtain ⟨W5, hW5⟩ : ∃ W5, W5 = (wr.setCell ⟨p 5, i, none⟩ (.bool (ME.glob i == 0))).drew := ⟨_, rfl⟩
                    rw [show (wr.setCell ⟨p 5, i, none⟩ (.bool false)).drew = W5 from by rw [hW5, tg]]
                    have H5 : Hid (_ ∧ _) := ⟨(Kept.mset HJ.out.1 5 (by omega) i (.bool (ME.glob i == 0))).drew, (Md.setZero HJ.out.2 i (ME.glob i == 0)).drew⟩
                    rw [← hW5] at H5
                    clear hW5
                    obtain ⟨c0, c1, c2, c3, c4, c5, c6, c7⟩ := Md.main H5.out.2
                    have y4 := Md.added H5.out.2 i hli
                    have z4 := Md.frozen H5.out.2 4 (by omega) i
                    have H6 : Hid (_ ∧ _) := ⟨Kept.mset H5.out.1 4 (by omega) i (.bool false), Md.as (Md.setAdded H5.out.2 i false) (look_step ME r j i _ (fun o => HD.out o))⟩
                    clear HJ H5
                    go_wp2
                    go_roundw
                    case rel => exact ⟨i + 1, by go_num, by omega, H6.out⟩
                    case measure => simp [intOf]; omega
                · rw [ha] at q2
                  have HD : Hid (∀ o, (ME.look i).dead o = if o = i ∧ ME.dies i = true then true else (ME.look i).dead o) := fun o => (if_neg (fun q => by have := q.2; simp [Mo.dies, hz, ha] at this)).symm
                  have y5 := Md.zero HJ.out.2 i hli
                  have z5 := Md.frozen HJ.out.2 5 (by omega) i
                  go_wp2_with fail
                  go_region
                  clear c0 c1 c2 c3 c4 c5 c6 c7 q1 q2 q3 q4 y5 z5
                  obtain ⟨W5, hW5⟩ : ∃ W5, W5 = (wr.setCell ⟨p 5, i, none⟩ (.bool (ME.glob i == 0))).drew := ⟨_, rfl⟩
                  rw [← hW5]
                  have H5 : Hid (_ ∧ _) := ⟨(Kept.mset HJ.out.1 5 (by omega) i (.bool (ME.glob i == 0))).drew, (Md.setZero HJ.out.2 i (ME.glob i == 0)).drew⟩
                  rw [← hW5] at H5
                  clear hW5
                  obtain ⟨c0, c1, c2, c3, c4, c5, c6, c7⟩ := Md.main H5.out.2
                  have y4 := Md.added H5.out.2 i hli
                  have z4 := Md.frozen H5.out.2 4 (by omega) i
                  have H6 : Hid (_ ∧ _) := ⟨Kept.mset H5.out.1 4 (by omega) i (.bool false), Md.as (Md.setAdded H5.out.2 i false) (look_step ME r j i _ (fun o => HD.out o))⟩
                  clear HJ H5
                  go_wp2
                  go_roundw
                  case rel => exact ⟨i + 1, by go_num, by omega, H6.out⟩
                  case measure => simp [intOf]; omega
            · have e : i = j := by omega
              subst e
              obtain ⟨c0, c1, c2, c3, c4, c5, c6, c7⟩ := Md.main HJ.out.2
              go_wp2_with fail
              clear c0 c1 c2 c3 c4 c5 c6 c7
              go_loopw [7] (fun x wi => ∃ q : Nat, x = .int .i64 (q : Int) ∧ q ≤ r ∧ Hid (Kept (mB p r) w wi ∧ Md wi p r i ((ME.look i).down q))) (fun x _ => (r - intOf x).toNat)
              case atStart => exact ⟨0, rfl, by omega, HJ.out.1, Md.as HJ.out.2 (down_zero _ r i)⟩
              case round =>
                clear HJ
                obtain ⟨q, rfl, hq, HJ⟩ := hrel
                obtain ⟨c0, c1, c2, c3, c4, c5, c6, c7⟩ := Md.main HJ.out.2
                by_cases hlq : q < r
                · have i0 : (q : Int) < (r : Int) := by omega
                  have i1 : (0 : Int) ≤ (q : Int) := by omega
                  have y3 := Md.flu HJ.out.2 q hlq
                  have z3 := Md.frozen HJ.out.2 3 (by omega) q
                  have H8 : Hid (_ ∧ _) := ⟨Kept.mset HJ.out.1 3 (by omega) q (.bool false), Md.as (Md.setFlu HJ.out.2 q false) (down_step (ME.look i) r i q)⟩
                  clear HJ
                  go_wp2
                  go_roundw
                  case rel => exact ⟨q + 1, by go_num, by omega, H8.out⟩
                  case measure => simp [intOf]; omega
                · have e2 : q = r := by omega
                  subst e2
                  go_wp2_with fail
                  go_end0
                  refine ⟨rfl, HJ.out.1, ?_⟩
                  rw [HN.out]
                  have h9 := HJ.out.2
                  rw [HM.out] at h9
                  exact h9.as ⟨fun _ _ _ _ => rfl, fun _ _ => rfl, fun _ _ => rfl, fun _ _ => rfl, fun _ _ => rfl, fun _ _ => rfl, fun _ _ => rfl, rfl⟩

end Go.Proofs.Ytljmpcmkgeomiaa
