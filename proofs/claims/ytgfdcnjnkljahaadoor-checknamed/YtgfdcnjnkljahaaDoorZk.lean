/-
  The descriptors: open.
-/
import Derived.Test.YtgfdcnjnkljahaaDoorZf
namespace Go.Proofs.YtgfdcnjnkljahaaDoor
open Go.RowKit Go.Lib Go.Maps
set_option linter.unusedVariables false
set_option linter.unusedSimpArgs false

theorem t_isFile {U : World} {h : Wh} {p : Pl} {S : Sta} {n : Nat} {wM w : World} {v : Value} {T : List Fi} (m : Md U h p S n wM w v T) (hf : Few S) (num : Int) (hw : Wf num) :
    Calls Tryd.prog 32 #[.pointer (some ⟨h.X, 0, none⟩), .int .i64 num] w fun e w' => e = .returned (.bool (fileG S num)) ∧ w' = w := by
  have c0 := m.c0
  have c3 := m.c3
  have hn := hf.n1
  have hlk := m.m1.look_ok hw
  have HG : Hid (fileG S num = match placeG S num with | none => false | some i => !(inoAt S.ino i.toNat).dir) := rfl
  cases hp : placeG S num with
  | none =>
    rw [hp] at hlk HG
    have hlk2 : (Instr.lookup 53 (.map (some h.b1)) (.int .i64 num) true).run Tryd.prog w = .ok (.tuple #[.int .i64 0, .bool false]) w := hlk
    clear hlk hp m hw
    go_enter Tryd.func32, Tryd.ntmps32
    go_wp2_with fail
    go_ret
    exact ⟨by rw [HG.out]; rfl, rfl⟩
  | some i =>
    have hb := place_ok S num i hp
    rw [hp] at hlk HG
    obtain ⟨k, rfl⟩ : ∃ k : Nat, i = (k : Int) := ⟨i.toNat, by omega⟩
    have hk : k < S.ino.length := by omega
    obtain ⟨b, o, ae, ce, ea, i0, i1, -⟩ := m.svw.ino k hk
    have e0 : inoAt S.ino ((k : Int)).toNat = S.ino[k] := by unfold inoAt; simp [hk]
    obtain ⟨d, hd⟩ : ∃ d, d = (S.ino[k]).dir := ⟨_, rfl⟩
    have HR : Hid (fileG S num = !d) := by show _ = _; rw [HG.out, hd]; dsimp only; rw [e0]
    rw [← hd] at i1
    have hlk2 : (Instr.lookup 53 (.map (some h.b1)) (.int .i64 num) true).run Tryd.prog w = .ok (.tuple #[.int .i64 (k : Int), .bool true]) w := hlk
    have j0 : (0 : Int) ≤ (k : Int) := by omega
    have j1 : (k : Int) < (S.ino.length : Int) := by omega
    rw [ea] at c0
    clear hlk hp m hw hb hd e0 HG i0
    go_enter Tryd.func32, Tryd.ntmps32
    go_wp2_with fail
    go_ret
    exact ⟨by rw [HR.out]; rfl, rfl⟩

set_option maxHeartbeats 4000000 in
theorem t_mayHold {U : World} {h : Wh} {p : Pl} {S : Sta} {n : Nat} {wM w : World} {v : Value} {T : List Fi} (m : Md U h p S n wM w v T) (hf : Few S) (d : Ds) :
    Calls Tryd.prog 33 #[.pointer (some ⟨h.X, 0, none⟩), .agg #[.int .i64 d.1, .int .i64 d.2.1, .int .i64 d.2.2]] w fun e w' => e = .returned (.bool (mayD S d)) ∧ Kept [] w w' := by
  have c2 := m.c2
  have hn := hf.n3
  obtain ⟨V, Y, HVY, kv, b1⟩ := one_box w #[.int .i64 d.1, .int .i64 d.2.1, .int .i64 d.2.2] 35
  have y0 : V.cell? ⟨Y, 0, none⟩ = some (.int .i64 d.1) := cellB b1
  have y1 : V.cell? ⟨Y, 1, none⟩ = some (.int .i64 d.2.1) := cellB b1
  have c2 := (m.same kv).c2
  have HK : Hid (Kept [] w V) := kv
  have HR : Hid (mayD S d = (decide (0 ≤ d.1) && decide (d.1 < (S.made.length : Int)) && decide (0 ≤ d.2.1) && decide (d.2.1 < 4))) := rfl
  clear m hf kv b1
  obtain ⟨c, f, z⟩ := d
  dsimp only at *
  go_enter Tryd.func33, Tryd.ntmps33
  go_upto_region 1 with fail
  rw [HVY.out.1, HVY.out.2]
  clear HVY
  by_cases d1 : 0 ≤ c
  · by_cases d2 : c < (S.made.length : Int)
    · by_cases d3 : 0 ≤ f
      · by_cases d4 : f < 4
        · have HT : Hid (mayD S (c, f, z) = true) := by show _ = _; rw [HR.out]; simp [d1, d2, d3, d4]
          go_quiet (fail)
          go_wp2_with fail
          go_ret
          exact ⟨by rw [HT.out]; rfl, HK.out.drewN _⟩
        · have HT : Hid (mayD S (c, f, z) = false) := by show _ = _; rw [HR.out]; simp; intros; omega
          go_quiet (fail)
          go_wp2_with fail
          go_ret
          exact ⟨by rw [HT.out]; rfl, HK.out.drewN _⟩
      · have HT : Hid (mayD S (c, f, z) = false) := by show _ = _; rw [HR.out]; simp; intros; omega
        go_quiet (fail)
        go_wp2_with fail
        go_ret
        exact ⟨by rw [HT.out]; rfl, HK.out.drewN _⟩
    · have HT : Hid (mayD S (c, f, z) = false) := by show _ = _; rw [HR.out]; simp; intros; omega
      go_quiet (fail)
      go_wp2_with fail
      go_ret
      exact ⟨by rw [HT.out]; rfl, HK.out.drewN _⟩
  · have HT : Hid (mayD S (c, f, z) = false) := by show _ = _; rw [HR.out]; simp; intros; omega
    go_quiet (fail)
    go_wp2_with fail
    go_ret
    exact ⟨by rw [HT.out]; rfl, HK.out.drewN _⟩

set_option maxHeartbeats 4000000 in
theorem t_isAhead (a d : Ds) (w : World) :
    Calls Tryd.prog 34 #[.agg #[.int .i64 a.1, .int .i64 a.2.1, .int .i64 a.2.2], .agg #[.int .i64 d.1, .int .i64 d.2.1, .int .i64 d.2.2]] w fun e w' => e = .returned (.bool (aheadD a d)) ∧ Kept [] w w' := by
  obtain ⟨V, Y, HVY, kv, b1⟩ := one_box w #[.int .i64 a.1, .int .i64 a.2.1, .int .i64 a.2.2] 35
  obtain ⟨V2, Z, HVZ, kv2, b2⟩ := one_box V #[.int .i64 d.1, .int .i64 d.2.1, .int .i64 d.2.2] 35
  have b1' : V2.heap[Y]? = some (.cells #[.int .i64 a.1, .int .i64 a.2.1, .int .i64 a.2.2] 35 (0, 0)) := by rw [kv2.block _ (lt_of_heap b1) (by simp)]; exact b1
  have y0 : V2.cell? ⟨Y, 0, none⟩ = some (.int .i64 a.1) := cellB b1'
  have y1 : V2.cell? ⟨Y, 1, none⟩ = some (.int .i64 a.2.1) := cellB b1'
  have z0 : V2.cell? ⟨Z, 0, none⟩ = some (.int .i64 d.1) := cellB b2
  have z1 : V2.cell? ⟨Z, 1, none⟩ = some (.int .i64 d.2.1) := cellB b2
  have HK : Hid (Kept [] w V2) := kv.trans kv2 (by simp)
  have hZ : Z = Y + 1 := by have e1 := HVZ.out.2; have e2 := HVY.out.1; have e3 := HVY.out.2; rw [← e2] at e1; simp at e1; omega
  subst hZ
  have HR : Hid (aheadD a d = (decide (a.1 < d.1) || a.1 == d.1 && decide (a.2.1 < d.2.1))) := rfl
  clear kv b1 kv2 b2 b1'
  obtain ⟨c, f, zz⟩ := a
  obtain ⟨c', f', zz'⟩ := d
  dsimp only at *
  go_enter Tryd.func34, Tryd.ntmps34
  go_upto_region 1 with fail
  rw [HVY.out.1, HVY.out.2, HVZ.out.1]
  clear HVY HVZ
  by_cases h1 : c < c'
  · have HT : Hid (aheadD (c, f, zz) (c', f', zz') = true) := by show _ = _; rw [HR.out]; simp [h1]
    go_wp2_with fail
    go_ret
    exact ⟨by rw [HT.out]; rfl, HK.out⟩
  · by_cases h2 : c = c'
    · subst h2
      by_cases h3 : f < f'
      · have HT : Hid (aheadD (c, f, zz) (c, f', zz') = true) := by show _ = _; rw [HR.out]; simp [h3]
        have e1 : (c == c) = true := by simp
        go_wp2_with fail
        go_ret
        exact ⟨by rw [HT.out]; rfl, HK.out⟩
      · have HT : Hid (aheadD (c, f, zz) (c, f', zz') = false) := by show _ = _; rw [HR.out]; simp [h3]
        have e1 : (c == c) = true := by simp
        go_wp2_with fail
        go_ret
        exact ⟨by rw [HT.out]; rfl, HK.out⟩
    · have HT : Hid (aheadD (c, f, zz) (c', f', zz') = false) := by show _ = _; rw [HR.out]; simp [h1, h2]
      have e1 : (c == c') = false := by simp [h2]
      go_wp2_with fail
      go_ret
      exact ⟨by rw [HT.out]; rfl, HK.out⟩

end Go.Proofs.YtgfdcnjnkljahaaDoor
