/-
  Joined of my texts Fa.
-/
import Derived.Test.YtmeafancgmkfkaaGreatDoorJf21
namespace Go.Proofs.YtmeafancgmkfkaaGreatDoor
open List renaming setIfInBounds_toArray → lz0, set_cons_zero → lz1, set_cons_succ → lz2, getElem_toArray → lz3, getElem_cons_zero → lz4, getElem_cons_succ → lz5
open Go.RowKit
set_option linter.unusedVariables false
set_option linter.unusedSimpArgs false
set_option maxRecDepth 100000 in
set_option maxHeartbeats 8000000 in
theorem k_fd {w : World} (a f z core fd : Int) (B X Y : Nat) (hX : w.cell? ⟨X, 0, none⟩ = some (.pointer (some ⟨B, 0, none⟩))) (hB : w.cell? ⟨B, 1, none⟩ = some (.int .i64 core)) (hY : w.cell? ⟨Y, 0, none⟩ = some (.int .i64 fd)) :
   Calls Tryz.prog 130 #[.agg #[.int .i64 a, .int .i64 f, .int .i64 z], .pointer (some ⟨X, 0, none⟩), .pointer (some ⟨Y, 0, none⟩)] w fun e w' => e = .returned (.bool (a == core && f == fd)) ∧ Kept [] w w' := by
 obtain ⟨W1, R, HWR, HKR, r0, r1, r2⟩ := box3 w (.int .i64 a) (.int .i64 f) (.int .i64 z) 39
 have HS : Hid (W1.cell? ⟨R, 0, none⟩ = some (.int .i64 a) ∧ W1.cell? ⟨R, 1, none⟩ = some (.int .i64 f) ∧ W1.cell? ⟨X, 0, none⟩ = some (.pointer (some ⟨B, 0, none⟩)) ∧ W1.cell? ⟨B, 1, none⟩ = some (.int .i64 core) ∧ W1.cell? ⟨Y, 0, none⟩ = some (.int .i64 fd)) := ⟨r0, r1, HKR.out.cell hX (by simp), HKR.out.cell hB (by simp), HKR.out.cell hY (by simp)⟩
 clear hX hB hY r0 r1 r2
 go_enter Tryz.func130, Tryz.ntmps130
 go_upto_region 1 with fail
 rw [HWR.out.1, HWR.out.2]
 clear HWR
 rcases hc : (a == core) with _ | _
 · have HE : Hid ((a == core && f == fd) = false) := by show _ = _; rw [hc]; rfl
   refine wp_region_held_drew (S := fun w' => w'.cell? ⟨R, 0, none⟩ = some (.int .i64 a) ∧ w'.cell? ⟨R, 1, none⟩ = some (.int .i64 f) ∧ w'.cell? ⟨X, 0, none⟩ = some (.pointer (some ⟨B, 0, none⟩)) ∧ w'.cell? ⟨B, 1, none⟩ = some (.int .i64 core) ∧ w'.cell? ⟨Y, 0, none⟩ = some (.int .i64 fd)) (by kernel_rfl) ?_ (fun hHeld => ?_)
   · exact HS.out
   refine wpAnyH_take (i := 0) (v := ?vp0) rfl (by kernel_rfl) (by kernel_rfl) (by kernel_rfl) (fun _ _ _ h => h) (Or.inl ⟨by rfl, ?hyp0⟩) (by assumption) ?_
   case hyp0 =>
     intro w hSw
     (try dsimp only at hSw)
     go_simp
     try with_reducible rfl
   try simp only [Act.put, lz0, lz1, lz2, lz3, lz4, lz5]
   refine wpAnyH_take (i := 1) (v := ?vp1) rfl (by kernel_rfl) (by kernel_rfl) (by kernel_rfl) (fun _ _ _ h => h) (Or.inl ⟨by rfl, ?hyp1⟩) (by assumption) ?_
   case hyp1 =>
     intro w hSw
     (try dsimp only at hSw)
     go_simp
     try with_reducible rfl
   try simp only [Act.put, lz0, lz1, lz2, lz3, lz4, lz5]
   refine wpAnyH_take (i := 2) (v := ?vp2) rfl (by kernel_rfl) (by kernel_rfl) (by kernel_rfl) (fun _ _ _ h => h) (Or.inl ⟨by rfl, ?hyp2⟩) (by assumption) ?_
   case hyp2 =>
     intro w hSw
     (try dsimp only at hSw)
     go_simp
     try with_reducible rfl
   try simp only [Act.put, lz0, lz1, lz2, lz3, lz4, lz5]
   refine wpAnyH_take (i := 3) (v := ?vp3) rfl (by kernel_rfl) (by kernel_rfl) (by kernel_rfl) (fun _ _ _ h => h) (Or.inl ⟨by rfl, ?hyp3⟩) (by assumption) ?_
   case hyp3 =>
     intro w hSw
     (try dsimp only at hSw)
     go_simp
     try with_reducible rfl
   try simp only [Act.put, lz0, lz1, lz2, lz3, lz4, lz5]
   refine wpAnyH_take (i := 4) (v := ?vp4) rfl (by kernel_rfl) (by kernel_rfl) (by kernel_rfl) (fun _ _ _ h => h) (Or.inl ⟨by rfl, ?hyp4⟩) (by assumption) ?_
   case hyp4 =>
     intro w hSw
     (try dsimp only at hSw)
     go_simp
     try with_reducible rfl
   try simp only [Act.put, lz0, lz1, lz2, lz3, lz4, lz5]
   refine wpAnyH_take (i := 5) (v := ?vp5) rfl (by kernel_rfl) (by kernel_rfl) (by kernel_rfl) (fun _ _ _ h => h) (Or.inl ⟨by rfl, ?hyp5⟩) (by assumption) ?_
   case hyp5 =>
     intro w hSw
     (try dsimp only at hSw)
     go_simp
     try with_reducible rfl
   try simp only [Act.put, lz0, lz1, lz2, lz3, lz4, lz5]
   refine wpAnyH_take (i := 6) (v := ?vp6) rfl (by kernel_rfl) (by kernel_rfl) (by kernel_rfl) (fun _ _ _ h => h) (Or.inl ⟨by rfl, ?hyp6⟩) (by assumption) ?_
   case hyp6 =>
     intro w hSw
     (try dsimp only at hSw)
     go_simp
     try with_reducible rfl
   try simp only [Act.put, lz0, lz1, lz2, lz3, lz4, lz5]
   refine wpAnyH_take (i := 7) (v := ?vp7) rfl (by kernel_rfl) (by kernel_rfl) (by kernel_rfl) (fun _ _ _ h => h) (Or.inl ⟨by rfl, ?hyp7⟩) (by assumption) ?_
   case hyp7 =>
     intro w hSw
     (try dsimp only at hSw)
     go_simp
     try with_reducible rfl
   try simp only [Act.put, lz0, lz1, lz2, lz3, lz4, lz5]
   refine wpAnyH_take (i := 8) (v := ?vp8) rfl (by kernel_rfl) (by kernel_rfl) (by kernel_rfl) (fun _ _ _ h => h) (Or.inl ⟨by rfl, ?hyp8⟩) (by assumption) ?_
   case hyp8 =>
     intro w hSw
     (try dsimp only at hSw)
     go_simp
     try with_reducible rfl
   try simp only [Act.put, lz0, lz1, lz2, lz3, lz4, lz5]
   refine wpAnyH_take (i := 9) (v := undef) rfl (by kernel_rfl) (by kernel_rfl) (by kernel_rfl) (fun _ _ _ h => h) (Or.inr ⟨by rfl, rfl⟩) (by assumption) ?_
   try simp only [Act.put, lz0, lz1, lz2, lz3, lz4, lz5]
   refine wpAnyH_take (i := 10) (v := undef) rfl (by kernel_rfl) (by kernel_rfl) (by kernel_rfl) (fun _ _ _ h => h) (Or.inr ⟨by rfl, rfl⟩) (by assumption) ?_
   try simp only [Act.put, lz0, lz1, lz2, lz3, lz4, lz5]
   refine wpAnyH_take (i := 11) (v := undef) rfl (by kernel_rfl) (by kernel_rfl) (by kernel_rfl) (fun _ _ _ h => h) (Or.inr ⟨by rfl, rfl⟩) (by assumption) ?_
   try simp only [Act.put, lz0, lz1, lz2, lz3, lz4, lz5]
   refine wpAnyH_take (i := 12) (v := undef) rfl (by kernel_rfl) (by kernel_rfl) (by kernel_rfl) (fun _ _ _ h => h) (Or.inr ⟨by rfl, rfl⟩) (by assumption) ?_
   try simp only [Act.put, lz0, lz1, lz2, lz3, lz4, lz5]
   refine wpAnyH_take (i := 13) (v := ?vp13) rfl (by kernel_rfl) (by kernel_rfl) (by kernel_rfl) (fun _ _ _ h => h) (Or.inl ⟨by rfl, ?hyp13⟩) (by assumption) ?_
   case hyp13 =>
     intro w hSw
     (try dsimp only at hSw)
     go_simp
     try with_reducible rfl
   try simp only [Act.put, lz0, lz1, lz2, lz3, lz4, lz5]
   refine wpAnyH_take (i := 14) (v := ?vp14) rfl (by kernel_rfl) (by kernel_rfl) (by kernel_rfl) (fun _ _ _ h => h) (Or.inl ⟨by rfl, ?hyp14⟩) (by assumption) ?_
   case hyp14 =>
     intro w hSw
     (try dsimp only at hSw)
     go_simp
     try with_reducible rfl
   try simp only [Act.put, lz0, lz1, lz2, lz3, lz4, lz5]
   refine wpAnyH_done (by kernel_rfl) ?_ _
   go_wp2_with fail
   go_ret
   exact ⟨ret_bool HE.out.symm, HKR.out.drew⟩
 · rcases hd : (f == fd) with _ | _
   · have HE : Hid ((a == core && f == fd) = false) := by show _ = _; rw [hc, hd]; rfl
     refine wp_region_held_drew (S := fun w' => w'.cell? ⟨R, 0, none⟩ = some (.int .i64 a) ∧ w'.cell? ⟨R, 1, none⟩ = some (.int .i64 f) ∧ w'.cell? ⟨X, 0, none⟩ = some (.pointer (some ⟨B, 0, none⟩)) ∧ w'.cell? ⟨B, 1, none⟩ = some (.int .i64 core) ∧ w'.cell? ⟨Y, 0, none⟩ = some (.int .i64 fd)) (by kernel_rfl) ?_ (fun hHeld => ?_)
     · exact HS.out
     refine wpAnyH_take (i := 0) (v := ?vq0) rfl (by kernel_rfl) (by kernel_rfl) (by kernel_rfl) (fun _ _ _ h => h) (Or.inl ⟨by rfl, ?hyq0⟩) (by assumption) ?_
     case hyq0 =>
       intro w hSw
       (try dsimp only at hSw)
       go_simp
       try with_reducible rfl
     try simp only [Act.put, lz0, lz1, lz2, lz3, lz4, lz5]
     refine wpAnyH_take (i := 1) (v := ?vq1) rfl (by kernel_rfl) (by kernel_rfl) (by kernel_rfl) (fun _ _ _ h => h) (Or.inl ⟨by rfl, ?hyq1⟩) (by assumption) ?_
     case hyq1 =>
       intro w hSw
       (try dsimp only at hSw)
       go_simp
       try with_reducible rfl
     try simp only [Act.put, lz0, lz1, lz2, lz3, lz4, lz5]
     refine wpAnyH_take (i := 2) (v := ?vq2) rfl (by kernel_rfl) (by kernel_rfl) (by kernel_rfl) (fun _ _ _ h => h) (Or.inl ⟨by rfl, ?hyq2⟩) (by assumption) ?_
     case hyq2 =>
       intro w hSw
       (try dsimp only at hSw)
       go_simp
       try with_reducible rfl
     try simp only [Act.put, lz0, lz1, lz2, lz3, lz4, lz5]
     refine wpAnyH_take (i := 3) (v := ?vq3) rfl (by kernel_rfl) (by kernel_rfl) (by kernel_rfl) (fun _ _ _ h => h) (Or.inl ⟨by rfl, ?hyq3⟩) (by assumption) ?_
     case hyq3 =>
       intro w hSw
       (try dsimp only at hSw)
       go_simp
       try with_reducible rfl
     try simp only [Act.put, lz0, lz1, lz2, lz3, lz4, lz5]
     refine wpAnyH_take (i := 4) (v := ?vq4) rfl (by kernel_rfl) (by kernel_rfl) (by kernel_rfl) (fun _ _ _ h => h) (Or.inl ⟨by rfl, ?hyq4⟩) (by assumption) ?_
     case hyq4 =>
       intro w hSw
       (try dsimp only at hSw)
       go_simp
       try with_reducible rfl
     try simp only [Act.put, lz0, lz1, lz2, lz3, lz4, lz5]
     refine wpAnyH_take (i := 5) (v := ?vq5) rfl (by kernel_rfl) (by kernel_rfl) (by kernel_rfl) (fun _ _ _ h => h) (Or.inl ⟨by rfl, ?hyq5⟩) (by assumption) ?_
     case hyq5 =>
       intro w hSw
       (try dsimp only at hSw)
       go_simp
       try with_reducible rfl
     try simp only [Act.put, lz0, lz1, lz2, lz3, lz4, lz5]
     refine wpAnyH_take (i := 6) (v := ?vq6) rfl (by kernel_rfl) (by kernel_rfl) (by kernel_rfl) (fun _ _ _ h => h) (Or.inl ⟨by rfl, ?hyq6⟩) (by assumption) ?_
     case hyq6 =>
       intro w hSw
       (try dsimp only at hSw)
       go_simp
       try with_reducible rfl
     try simp only [Act.put, lz0, lz1, lz2, lz3, lz4, lz5]
     refine wpAnyH_take (i := 7) (v := ?vq7) rfl (by kernel_rfl) (by kernel_rfl) (by kernel_rfl) (fun _ _ _ h => h) (Or.inl ⟨by rfl, ?hyq7⟩) (by assumption) ?_
     case hyq7 =>
       intro w hSw
       (try dsimp only at hSw)
       go_simp
       try with_reducible rfl
     try simp only [Act.put, lz0, lz1, lz2, lz3, lz4, lz5]
     refine wpAnyH_take (i := 8) (v := ?vq8) rfl (by kernel_rfl) (by kernel_rfl) (by kernel_rfl) (fun _ _ _ h => h) (Or.inl ⟨by rfl, ?hyq8⟩) (by assumption) ?_
     case hyq8 =>
       intro w hSw
       (try dsimp only at hSw)
       go_simp
       try with_reducible rfl
     try simp only [Act.put, lz0, lz1, lz2, lz3, lz4, lz5]
     refine wpAnyH_take (i := 9) (v := ?vq9) rfl (by kernel_rfl) (by kernel_rfl) (by kernel_rfl) (fun _ _ _ h => h) (Or.inl ⟨by rfl, ?hyq9⟩) (by assumption) ?_
     case hyq9 =>
       intro w hSw
       (try dsimp only at hSw)
       go_simp
       try with_reducible rfl
     try simp only [Act.put, lz0, lz1, lz2, lz3, lz4, lz5]
     refine wpAnyH_take (i := 10) (v := ?vq10) rfl (by kernel_rfl) (by kernel_rfl) (by kernel_rfl) (fun _ _ _ h => h) (Or.inl ⟨by rfl, ?hyq10⟩) (by assumption) ?_
     case hyq10 =>
       intro w hSw
       (try dsimp only at hSw)
       go_simp
       try with_reducible rfl
     try simp only [Act.put, lz0, lz1, lz2, lz3, lz4, lz5]
     refine wpAnyH_take (i := 11) (v := ?vq11) rfl (by kernel_rfl) (by kernel_rfl) (by kernel_rfl) (fun _ _ _ h => h) (Or.inl ⟨by rfl, ?hyq11⟩) (by assumption) ?_
     case hyq11 =>
       intro w hSw
       (try dsimp only at hSw)
       go_simp
       try with_reducible rfl
     try simp only [Act.put, lz0, lz1, lz2, lz3, lz4, lz5]
     refine wpAnyH_take (i := 12) (v := ?vq12) rfl (by kernel_rfl) (by kernel_rfl) (by kernel_rfl) (fun _ _ _ h => h) (Or.inl ⟨by rfl, ?hyq12⟩) (by assumption) ?_
     case hyq12 =>
       intro w hSw
       (try dsimp only at hSw)
       go_simp
       try with_reducible rfl
     try simp only [Act.put, lz0, lz1, lz2, lz3, lz4, lz5]
     refine wpAnyH_take (i := 13) (v := ?vq13) rfl (by kernel_rfl) (by kernel_rfl) (by kernel_rfl) (fun _ _ _ h => h) (Or.inl ⟨by rfl, ?hyq13⟩) (by assumption) ?_
     case hyq13 =>
       intro w hSw
       (try dsimp only at hSw)
       go_simp
       try with_reducible rfl
     try simp only [Act.put, lz0, lz1, lz2, lz3, lz4, lz5]
     refine wpAnyH_take (i := 14) (v := ?vq14) rfl (by kernel_rfl) (by kernel_rfl) (by kernel_rfl) (fun _ _ _ h => h) (Or.inl ⟨by rfl, ?hyq14⟩) (by assumption) ?_
     case hyq14 =>
       intro w hSw
       (try dsimp only at hSw)
       go_simp
       try with_reducible rfl
     try simp only [Act.put, lz0, lz1, lz2, lz3, lz4, lz5]
     refine wpAnyH_done (by kernel_rfl) ?_ _
     go_wp2_with fail
     go_ret
     exact ⟨ret_bool HE.out.symm, HKR.out.drew⟩
   · have HE : Hid ((a == core && f == fd) = true) := by show _ = _; rw [hc, hd]; rfl
     refine wp_region_held_drew (S := fun w' => w'.cell? ⟨R, 0, none⟩ = some (.int .i64 a) ∧ w'.cell? ⟨R, 1, none⟩ = some (.int .i64 f) ∧ w'.cell? ⟨X, 0, none⟩ = some (.pointer (some ⟨B, 0, none⟩)) ∧ w'.cell? ⟨B, 1, none⟩ = some (.int .i64 core) ∧ w'.cell? ⟨Y, 0, none⟩ = some (.int .i64 fd)) (by kernel_rfl) ?_ (fun hHeld => ?_)
     · exact HS.out
     refine wpAnyH_take (i := 0) (v := ?vr0) rfl (by kernel_rfl) (by kernel_rfl) (by kernel_rfl) (fun _ _ _ h => h) (Or.inl ⟨by rfl, ?hyr0⟩) (by assumption) ?_
     case hyr0 =>
       intro w hSw
       (try dsimp only at hSw)
       go_simp
       try with_reducible rfl
     try simp only [Act.put, lz0, lz1, lz2, lz3, lz4, lz5]
     refine wpAnyH_take (i := 1) (v := ?vr1) rfl (by kernel_rfl) (by kernel_rfl) (by kernel_rfl) (fun _ _ _ h => h) (Or.inl ⟨by rfl, ?hyr1⟩) (by assumption) ?_
     case hyr1 =>
       intro w hSw
       (try dsimp only at hSw)
       go_simp
       try with_reducible rfl
     try simp only [Act.put, lz0, lz1, lz2, lz3, lz4, lz5]
     refine wpAnyH_take (i := 2) (v := ?vr2) rfl (by kernel_rfl) (by kernel_rfl) (by kernel_rfl) (fun _ _ _ h => h) (Or.inl ⟨by rfl, ?hyr2⟩) (by assumption) ?_
     case hyr2 =>
       intro w hSw
       (try dsimp only at hSw)
       go_simp
       try with_reducible rfl
     try simp only [Act.put, lz0, lz1, lz2, lz3, lz4, lz5]
     refine wpAnyH_take (i := 3) (v := ?vr3) rfl (by kernel_rfl) (by kernel_rfl) (by kernel_rfl) (fun _ _ _ h => h) (Or.inl ⟨by rfl, ?hyr3⟩) (by assumption) ?_
     case hyr3 =>
       intro w hSw
       (try dsimp only at hSw)
       go_simp
       try with_reducible rfl
     try simp only [Act.put, lz0, lz1, lz2, lz3, lz4, lz5]
     refine wpAnyH_take (i := 4) (v := ?vr4) rfl (by kernel_rfl) (by kernel_rfl) (by kernel_rfl) (fun _ _ _ h => h) (Or.inl ⟨by rfl, ?hyr4⟩) (by assumption) ?_
     case hyr4 =>
       intro w hSw
       (try dsimp only at hSw)
       go_simp
       try with_reducible rfl
     try simp only [Act.put, lz0, lz1, lz2, lz3, lz4, lz5]
     refine wpAnyH_take (i := 5) (v := ?vr5) rfl (by kernel_rfl) (by kernel_rfl) (by kernel_rfl) (fun _ _ _ h => h) (Or.inl ⟨by rfl, ?hyr5⟩) (by assumption) ?_
     case hyr5 =>
       intro w hSw
       (try dsimp only at hSw)
       go_simp
       try with_reducible rfl
     try simp only [Act.put, lz0, lz1, lz2, lz3, lz4, lz5]
     refine wpAnyH_take (i := 6) (v := ?vr6) rfl (by kernel_rfl) (by kernel_rfl) (by kernel_rfl) (fun _ _ _ h => h) (Or.inl ⟨by rfl, ?hyr6⟩) (by assumption) ?_
     case hyr6 =>
       intro w hSw
       (try dsimp only at hSw)
       go_simp
       try with_reducible rfl
     try simp only [Act.put, lz0, lz1, lz2, lz3, lz4, lz5]
     refine wpAnyH_take (i := 7) (v := ?vr7) rfl (by kernel_rfl) (by kernel_rfl) (by kernel_rfl) (fun _ _ _ h => h) (Or.inl ⟨by rfl, ?hyr7⟩) (by assumption) ?_
     case hyr7 =>
       intro w hSw
       (try dsimp only at hSw)
       go_simp
       try with_reducible rfl
     try simp only [Act.put, lz0, lz1, lz2, lz3, lz4, lz5]
     refine wpAnyH_take (i := 8) (v := ?vr8) rfl (by kernel_rfl) (by kernel_rfl) (by kernel_rfl) (fun _ _ _ h => h) (Or.inl ⟨by rfl, ?hyr8⟩) (by assumption) ?_
     case hyr8 =>
       intro w hSw
       (try dsimp only at hSw)
       go_simp
       try with_reducible rfl
     try simp only [Act.put, lz0, lz1, lz2, lz3, lz4, lz5]
     refine wpAnyH_take (i := 9) (v := ?vr9) rfl (by kernel_rfl) (by kernel_rfl) (by kernel_rfl) (fun _ _ _ h => h) (Or.inl ⟨by rfl, ?hyr9⟩) (by assumption) ?_
     case hyr9 =>
       intro w hSw
       (try dsimp only at hSw)
       go_simp
       try with_reducible rfl
     try simp only [Act.put, lz0, lz1, lz2, lz3, lz4, lz5]
     refine wpAnyH_take (i := 10) (v := ?vr10) rfl (by kernel_rfl) (by kernel_rfl) (by kernel_rfl) (fun _ _ _ h => h) (Or.inl ⟨by rfl, ?hyr10⟩) (by assumption) ?_
     case hyr10 =>
       intro w hSw
       (try dsimp only at hSw)
       go_simp
       try with_reducible rfl
     try simp only [Act.put, lz0, lz1, lz2, lz3, lz4, lz5]
     refine wpAnyH_take (i := 11) (v := ?vr11) rfl (by kernel_rfl) (by kernel_rfl) (by kernel_rfl) (fun _ _ _ h => h) (Or.inl ⟨by rfl, ?hyr11⟩) (by assumption) ?_
     case hyr11 =>
       intro w hSw
       (try dsimp only at hSw)
       go_simp
       try with_reducible rfl
     try simp only [Act.put, lz0, lz1, lz2, lz3, lz4, lz5]
     refine wpAnyH_take (i := 12) (v := ?vr12) rfl (by kernel_rfl) (by kernel_rfl) (by kernel_rfl) (fun _ _ _ h => h) (Or.inl ⟨by rfl, ?hyr12⟩) (by assumption) ?_
     case hyr12 =>
       intro w hSw
       (try dsimp only at hSw)
       go_simp
       try with_reducible rfl
     try simp only [Act.put, lz0, lz1, lz2, lz3, lz4, lz5]
     refine wpAnyH_take (i := 13) (v := ?vr13) rfl (by kernel_rfl) (by kernel_rfl) (by kernel_rfl) (fun _ _ _ h => h) (Or.inl ⟨by rfl, ?hyr13⟩) (by assumption) ?_
     case hyr13 =>
       intro w hSw
       (try dsimp only at hSw)
       go_simp
       try with_reducible rfl
     try simp only [Act.put, lz0, lz1, lz2, lz3, lz4, lz5]
     refine wpAnyH_take (i := 14) (v := ?vr14) rfl (by kernel_rfl) (by kernel_rfl) (by kernel_rfl) (fun _ _ _ h => h) (Or.inl ⟨by rfl, ?hyr14⟩) (by assumption) ?_
     case hyr14 =>
       intro w hSw
       (try dsimp only at hSw)
       go_simp
       try with_reducible rfl
     try simp only [Act.put, lz0, lz1, lz2, lz3, lz4, lz5]
     refine wpAnyH_done (by kernel_rfl) ?_ _
     go_wp2_with fail
     go_ret
     exact ⟨ret_bool HE.out.symm, HKR.out.drew⟩
set_option maxRecDepth 100000 in
set_option maxHeartbeats 2000000 in
theorem ix_fd {w : World} {a : Option Addr} {L : List Ds} (hL : DesA w a L) (hn : L.length ≤ lim) (c : Nat) (core fd : Int) (B X Y : Nat) (hX : w.cell? ⟨X, 0, none⟩ = some (.pointer (some ⟨B, 0, none⟩)) ∧ w.cell? ⟨B, 1, none⟩ = some (.int .i64 core) ∧ w.cell? ⟨Y, 0, none⟩ = some (.int .i64 fd)) :
   Calls Tryz.prog 95 #[.slice a L.length c, .func (.func 130) #[] #[.pointer (some ⟨X, 0, none⟩), .pointer (some ⟨Y, 0, none⟩)]] w fun e w' => e = .returned (.int .i64 (ixI (fdP L core fd))) ∧ Kept [] w w' := by
 have HL : Hid (DesA w a L) := hL
 have HX : Hid (_) := hX
 unfold lim at hn
 clear hL hX
 go_enter Tryz.func95, Tryz.ntmps95
 go_wp2_with fail
 go_loopw [8] (fun i wr => ∃ n : Nat, i = .int .i64 (n : Int) ∧ n ≤ L.length ∧ Hid (Kept [] w wr ∧ ∀ j (hj : j < L.length), j < n → ((L[j]).1 == core && (L[j]).2.1 == fd) = false)) (fun i _ => (L.length - intOf i).toNat)
 case atStart => exact ⟨0, rfl, by omega, Kept.refl _ _, fun j _ hj => by omega⟩
 case round =>
   obtain ⟨n, rfl, hn, HJ⟩ := hrel
   by_cases hlt : n < L.length
   · have i0 : (0 : Int) ≤ (n : Int) := by omega
     have i1 : (n : Int) < (L.length : Int) := by omega
     obtain ⟨b, o, ha, h1, h2, h3⟩ := (HL.out.kept HJ.out.1) n hlt
     subst ha
     have HX2 : Hid (wr.cell? ⟨X, 0, none⟩ = some (.pointer (some ⟨B, 0, none⟩)) ∧ wr.cell? ⟨B, 1, none⟩ = some (.int .i64 core) ∧ wr.cell? ⟨Y, 0, none⟩ = some (.int .i64 fd)) := ⟨HJ.out.1.cell HX.out.1 (by simp), HJ.out.1.cell HX.out.2.1 (by simp), HJ.out.1.cell HX.out.2.2 (by simp)⟩
     have HP : Hid (∃ x, x = ((L[n]).1 == core && (L[n]).2.1 == fd)) := ⟨_, rfl⟩
     go_wp2_with fail
     refine (k_fd (L[n]).1 (L[n]).2.1 (L[n]).2.2 core fd B X Y HX2.out.1 HX2.out.2.1 HX2.out.2.2).mono ?_
     rintro e w1 ⟨rfl, k1⟩
     have HK : Hid (Kept [] w w1) := HJ.out.1.trans k1 (by simp)
     clear k1 HP
     rcases he : ((L[n]).1 == core && (L[n]).2.1 == fd) with _ | _
     · have HE : Hid (Kept [] w w1 ∧ ∀ j (hj : j < L.length), j < n + 1 → ((L[j]).1 == core && (L[j]).2.1 == fd) = false) := ⟨HK.out, fun j hj hjn => by
         by_cases e : j = n
         · subst e; exact he
         · exact HJ.out.2 j hj (by omega)⟩
       clear he HJ HK
       go_wp2_with fail
       go_roundw
       case rel => exact ⟨n + 1, by go_num, by omega, HE.out⟩
       case measure => simp [intOf]; omega
     · have HE : Hid (fdP L core fd = some n) := idx_some hlt he HJ.out.2
       clear he HJ
       go_wp2_with fail
       go_ret
       exact ⟨ret_int (by rw [HE.out]; rfl), HK.out⟩
   · have i1 : ¬ (n : Int) < (L.length : Int) := by omega
     have HE : Hid (fdP L core fd = none) := idx_none fun j hj => HJ.out.2 j hj (by omega)
     go_wp2_with fail
     go_ret
     exact ⟨ret_int (by rw [HE.out]; rfl), HJ.out.1⟩
set_option maxRecDepth 100000 in
set_option maxHeartbeats 2000000 in
theorem p_fd {w : World} {B : Nat} {c : Cal} {pk : Value} {p : Pl} {S : Sta} (h : Rd w B c pk p S) (fd : Int) :
   Calls Tryz.prog 119 #[.pointer (some ⟨B, 0, none⟩), .int .i64 fd] w fun e w' => e = .returned (.int .i64 (ixI (fdP S.opn c.core fd))) ∧ Kept [] w w' := by
 obtain ⟨W1, X, HWX, HKX, x0⟩ := box1 w (.pointer (some ⟨B, 0, none⟩)) 72
 obtain ⟨W2, Y, HWY, HKY, y0⟩ := box1 W1 (.int .i64 fd) 3
 have hY1 : Y = X + 1 := by rw [← HWY.out.2, ← HWX.out.1, ← HWX.out.2]; simp
 subst hY1
 have HK2 : Hid (Kept [] w W2) := HKX.out.trans HKY.out (by simp)
 have hR := h.kept HK2.out
 have HX : Hid (W2.cell? ⟨X, 0, none⟩ = some (.pointer (some ⟨B, 0, none⟩)) ∧ W2.cell? ⟨B, 1, none⟩ = some (.int .i64 c.core) ∧ W2.cell? ⟨X + 1, 0, none⟩ = some (.int .i64 fd)) := ⟨HKY.out.cell x0 (by simp), hR.c1, y0⟩
 have hX2 := HX.out.1
 have d9 := hR.c9
 have HD : Hid (DesA W2 p.a2 S.opn ∧ S.opn.length ≤ lim) := ⟨hR.sv.des, hR.sv.n2⟩
 have hmf := makeF
 clear h hR x0 y0 HKX HKY
 go_enter Tryz.func119, Tryz.ntmps119
 go_upto_region 1 with fail
 rw [HWX.out.1, HWY.out.1, HWX.out.2]
 clear HWX HWY
 go_wp2_with fail
 refine (ix_fd HD.out.1 HD.out.2 _ c.core fd B X (X + 1) HX.out).mono ?_
 rintro e w1 ⟨rfl, k1⟩
 have HK : Hid (Kept [] w w1) := HK2.out.trans k1 (by simp)
 clear k1
 go_wp2_with fail
 go_ret
 exact ⟨rfl, HK.out⟩
set_option maxRecDepth 100000 in
set_option maxHeartbeats 2000000 in
theorem p_own_none {w : World} {B : Nat} {c : Cal} {pk : Value} {p : Pl} {S : Sta} (h : Rd w B c pk p S) (hf : fdP S.opn c.core c.fd = none) :
   Calls Tryz.prog 105 #[.pointer (some ⟨B, 0, none⟩)] w fun e w' => e = thr 4 ∧ Kept [] w w' := by
 have HR : Hid (_) := h
 have HF : Hid (_) := hf
 have d2 := h.c2
 clear h hf
 go_enter Tryz.func105, Tryz.ntmps105
 go_wp2_with fail
 refine (p_fd HR.out c.fd).mono ?_
 rintro e w1 ⟨rfl, k1⟩
 have HK : Hid (Kept [] w w1) := k1
 rw [HF.out]
 unfold ixI
 clear k1 d2
 go_wp2_with fail
 refine (p_if 4 (by decide) w1).mono ?_
 rintro e w2 ⟨rfl, hw⟩
 subst hw
 exact ⟨rfl, rfl, HK.out⟩
set_option maxRecDepth 100000 in
set_option maxHeartbeats 2000000 in
theorem p_own_some {w : World} {B : Nat} {c : Cal} {pk : Value} {p : Pl} {S : Sta} (h : Rd w B c pk p S) {j : Nat} (hf : fdP S.opn c.core c.fd = some j) :
   Calls Tryz.prog 105 #[.pointer (some ⟨B, 0, none⟩)] w fun e w' => e = .returned (.int .i64 (j : Int)) ∧ Kept [] w w' := by
 have HR : Hid (_) := h
 have HF : Hid (_) := hf
 have d2 := h.c2
 clear h hf
 go_enter Tryz.func105, Tryz.ntmps105
 go_wp2_with fail
 refine (p_fd HR.out c.fd).mono ?_
 rintro e w1 ⟨rfl, k1⟩
 have HK : Hid (Kept [] w w1) := k1
 rw [HF.out]
 unfold ixI
 clear k1 d2
 have j0 : ¬ (j : Int) < 0 := by omega
 have j1 : decide ((j : Int) < 0) = false := by simp
 go_wp2_with fail
 refine (p_if_no 4 w1).mono ?_
 rintro e w2 ⟨rfl, hw⟩
 subst hw
 go_wp2_with fail
 go_ret
 exact ⟨rfl, HK.out⟩
set_option maxRecDepth 100000 in
set_option maxHeartbeats 2000000 in
theorem p_file_some {w : World} {B : Nat} {c : Cal} {pk : Value} {p : Pl} {S : Sta} (h : Rd w B c pk p S) {j k : Nat} (hf : fdP S.opn c.core c.fd = some j) (hj : j < S.opn.length) (hat : atR S.ino (S.opn[j]).2.2 = some k) {b o : Nat} (ha : p.a1 = some ⟨b, o, none⟩) :
   Calls Tryz.prog 108 #[.pointer (some ⟨B, 0, none⟩)] w fun e w' => e = .returned (.pointer (some ⟨b, o + k * 4, none⟩)) ∧ Kept [] w w' := by
 have HR : Hid (_) := h
 obtain ⟨g, q, ha2, -, -, hc⟩ := h.sv.des j hj
 obtain ⟨z, hz⟩ : ∃ z, (S.opn[j]).2.2 = z := ⟨_, rfl⟩
 rw [hz] at hc hat
 have HIn : Hid (∀ W, Sv W p S → Calls Tryz.prog 50 #[.agg #[.slice (some ⟨b, o, none⟩) S.ino.length p.c1, .slice (some ⟨g, q, none⟩) S.opn.length p.c2, .slice p.a3 S.made.length p.c3], .int .i64 z] W fun e w' => e = .returned (.pointer (some ⟨b, o + k * 4, none⟩)) ∧ Kept [] W w') := fun W hW => by
   have := p_inode_some hW z hat ha
   unfold sval at this
   rw [ha, ha2] at this
   exact this
 have d8 := h.c8
 have d9 := h.c9
 have d10 := h.c10
 rw [ha] at d8
 rw [ha2] at d9
 have HC : Hid (w.cell? ⟨B, 8, none⟩ = some (.slice (some ⟨b, o, none⟩) S.ino.length p.c1) ∧ w.cell? ⟨B, 9, none⟩ = some (.slice (some ⟨g, q, none⟩) S.opn.length p.c2) ∧ w.cell? ⟨B, 10, none⟩ = some (.slice p.a3 S.made.length p.c3) ∧ w.cell? ⟨g, q + j * 3 + 2, none⟩ = some (.int .i64 z)) := ⟨d8, d9, d10, hc⟩
 have HF : Hid (_) := hf
 have i0 : (0 : Int) ≤ (j : Int) := by omega
 have i1 : (j : Int) < (S.opn.length : Int) := by omega
 have i2 : ¬ (j : Int) < 0 := by omega
 clear h hf hat ha ha2 hc hz d8 d9 d10
 go_enter Tryz.func108, Tryz.ntmps108
 go_upto_region 1 with fail
 go_region_held3 (fun w' => w'.cell? ⟨B, 8, none⟩ = some (.slice (some ⟨b, o, none⟩) S.ino.length p.c1) ∧ w'.cell? ⟨B, 9, none⟩ = some (.slice (some ⟨g, q, none⟩) S.opn.length p.c2) ∧ w'.cell? ⟨B, 10, none⟩ = some (.slice p.a3 S.made.length p.c3) ∧ w'.cell? ⟨g, q + j * 3 + 2, none⟩ = some (.int .i64 z)) (first | exact HC.out | exact z4 | exact z5 | go_keep)
   (first
     | (go_at_call 105; refine (p_own_some (HR.out.kept (Kept.refl _ _).drew) HF.out).mono ?_; rintro e w4 ⟨rfl, k4⟩; have z4 := (⟨k4.cell (HC.out.1) (by simp), k4.cell (HC.out.2.1) (by simp), k4.cell (HC.out.2.2.1) (by simp), k4.cell (HC.out.2.2.2) (by simp)⟩ : w4.cell? ⟨B, 8, none⟩ = some (.slice (some ⟨b, o, none⟩) S.ino.length p.c1) ∧ w4.cell? ⟨B, 9, none⟩ = some (.slice (some ⟨g, q, none⟩) S.opn.length p.c2) ∧ w4.cell? ⟨B, 10, none⟩ = some (.slice p.a3 S.made.length p.c3) ∧ w4.cell? ⟨g, q + j * 3 + 2, none⟩ = some (.int .i64 z)); have HK4 : Hid (Kept [] w w4) := (Kept.refl _ _).drew.trans k4 (by simp); clear k4)
     | (go_at_call 50; refine (HIn.out _ (HR.out.sv.kept HK4.out)).mono ?_; rintro e w5 ⟨rfl, k5⟩; have z5 := (⟨k5.cell (z4.1) (by simp), k5.cell (z4.2.1) (by simp), k5.cell (z4.2.2.1) (by simp), k5.cell (z4.2.2.2) (by simp)⟩ : w5.cell? ⟨B, 8, none⟩ = some (.slice (some ⟨b, o, none⟩) S.ino.length p.c1) ∧ w5.cell? ⟨B, 9, none⟩ = some (.slice (some ⟨g, q, none⟩) S.opn.length p.c2) ∧ w5.cell? ⟨B, 10, none⟩ = some (.slice p.a3 S.made.length p.c3) ∧ w5.cell? ⟨g, q + j * 3 + 2, none⟩ = some (.int .i64 z)); have HK5 : Hid (Kept [] w w5) := HK4.out.trans k5 (by simp); clear k5))
 clear z4 z5
 go_wp2_with fail
 go_ret
 exact ⟨rfl, HK5.out⟩
set_option maxRecDepth 100000 in
set_option maxHeartbeats 2000000 in
theorem p_file_none {w : World} {B : Nat} {c : Cal} {pk : Value} {p : Pl} {S : Sta} (h : Rd w B c pk p S) (hf : fdP S.opn c.core c.fd = none) :
   Calls Tryz.prog 108 #[.pointer (some ⟨B, 0, none⟩)] w fun e w' => e = thr 4 ∧ Kept [] w w' := by
 have HR : Hid (_) := h
 have HC : Hid (w.cell? ⟨B, 8, none⟩ = some (.slice p.a1 S.ino.length p.c1) ∧ w.cell? ⟨B, 9, none⟩ = some (.slice p.a2 S.opn.length p.c2) ∧ w.cell? ⟨B, 10, none⟩ = some (.slice p.a3 S.made.length p.c3)) := ⟨h.c8, h.c9, h.c10⟩
 have HF : Hid (_) := hf
 clear h hf
 go_enter Tryz.func108, Tryz.ntmps108
 go_upto_region 1 with fail
 refine wp_region_held_drew (S := fun w' => w'.cell? ⟨B, 8, none⟩ = some (.slice p.a1 S.ino.length p.c1) ∧ w'.cell? ⟨B, 9, none⟩ = some (.slice p.a2 S.opn.length p.c2) ∧ w'.cell? ⟨B, 10, none⟩ = some (.slice p.a3 S.made.length p.c3)) (by kernel_rfl) ?_ (fun hHeld => ?_)
 · exact HC.out
 refine wpAnyH_take (i := 0) (v := ?vp0) rfl (by kernel_rfl) (by kernel_rfl) (by kernel_rfl) (fun _ _ _ h => h) (Or.inl ⟨by rfl, ?hyp0⟩) (by assumption) ?_
 case hyp0 =>
   intro w hSw
   (try dsimp only at hSw)
   go_simp
   try with_reducible rfl
 try simp only [Act.put, lz0, lz1, lz2, lz3, lz4, lz5]
 refine wpAnyH_take (i := 1) (v := ?vp1) rfl (by kernel_rfl) (by kernel_rfl) (by kernel_rfl) (fun _ _ _ h => h) (Or.inl ⟨by rfl, ?hyp1⟩) (by assumption) ?_
 case hyp1 =>
   intro w hSw
   (try dsimp only at hSw)
   go_simp
   try with_reducible rfl
 try simp only [Act.put, lz0, lz1, lz2, lz3, lz4, lz5]
 refine wpAnyH_take (i := 2) (v := ?vp2) rfl (by kernel_rfl) (by kernel_rfl) (by kernel_rfl) (fun _ _ _ h => h) (Or.inl ⟨by rfl, ?hyp2⟩) (by assumption) ?_
 case hyp2 =>
   intro w hSw
   (try dsimp only at hSw)
   go_simp
   try with_reducible rfl
 try simp only [Act.put, lz0, lz1, lz2, lz3, lz4, lz5]
 refine wpAnyH_take (i := 3) (v := ?vp3) rfl (by kernel_rfl) (by kernel_rfl) (by kernel_rfl) (fun _ _ _ h => h) (Or.inl ⟨by rfl, ?hyp3⟩) (by assumption) ?_
 case hyp3 =>
   intro w hSw
   (try dsimp only at hSw)
   go_simp
   try with_reducible rfl
 try simp only [Act.put, lz0, lz1, lz2, lz3, lz4, lz5]
 refine wpAnyH_take (i := 4) (v := ?vp4) rfl (by kernel_rfl) (by kernel_rfl) (by kernel_rfl) (fun _ _ _ h => h) (Or.inl ⟨by rfl, ?hyp4⟩) (by assumption) ?_
 case hyp4 =>
   intro w hSw
   (try dsimp only at hSw)
   go_simp
   try with_reducible rfl
 try simp only [Act.put, lz0, lz1, lz2, lz3, lz4, lz5]
 refine wpAnyH_take (i := 5) (v := ?vp5) rfl (by kernel_rfl) (by kernel_rfl) (by kernel_rfl) (fun _ _ _ h => h) (Or.inl ⟨by rfl, ?hyp5⟩) (by assumption) ?_
 case hyp5 =>
   intro w hSw
   (try dsimp only at hSw)
   go_simp
   try with_reducible rfl
 try simp only [Act.put, lz0, lz1, lz2, lz3, lz4, lz5]
 refine wpAnyH_take (i := 6) (v := ?vp6) rfl (by kernel_rfl) (by kernel_rfl) (by kernel_rfl) (fun _ _ _ h => h) (Or.inl ⟨by rfl, ?hyp6⟩) (by assumption) ?_
 case hyp6 =>
   intro w hSw
   (try dsimp only at hSw)
   go_simp
   try with_reducible rfl
 try simp only [Act.put, lz0, lz1, lz2, lz3, lz4, lz5]
 refine wpAnyH_take (i := 7) (v := ?vp7) rfl (by kernel_rfl) (by kernel_rfl) (by kernel_rfl) (fun _ _ _ h => h) (Or.inl ⟨by rfl, ?hyp7⟩) (by assumption) ?_
 case hyp7 =>
   intro w hSw
   (try dsimp only at hSw)
   go_simp
   try with_reducible rfl
 try simp only [Act.put, lz0, lz1, lz2, lz3, lz4, lz5]
 refine wpAnyH_take (i := 8) (v := ?vp8) rfl (by kernel_rfl) (by kernel_rfl) (by kernel_rfl) (fun _ _ _ h => h) (Or.inl ⟨by rfl, ?hyp8⟩) (by assumption) ?_
 case hyp8 =>
   intro w hSw
   (try dsimp only at hSw)
   go_simp
   try with_reducible rfl
 try simp only [Act.put, lz0, lz1, lz2, lz3, lz4, lz5]
 refine wpAnyH_take (i := 9) (v := ?vp9) rfl (by kernel_rfl) (by kernel_rfl) (by kernel_rfl) (fun _ _ _ h => h) (Or.inl ⟨by rfl, ?hyp9⟩) (by assumption) ?_
 case hyp9 =>
   intro w hSw
   (try dsimp only at hSw)
   go_simp
   try with_reducible rfl
 try simp only [Act.put, lz0, lz1, lz2, lz3, lz4, lz5]
 refine wpAnyH_ready (rs := [10]) (by kernel_rfl) (by simp) ?_
 refine AllReadyH.cons rfl (fun K hK => ?_) AllReadyH.nil
 go_simp
 refine (p_own_none (HR.out.kept (Kept.refl _ _).drew) HF.out).mono ?_
 rintro e w4 ⟨rfl, k4⟩
 exact ⟨rfl, rfl, (Kept.refl _ _).drew.trans k4 (by simp)⟩
set_option maxRecDepth 100000 in
set_option maxHeartbeats 2000000 in
theorem p_infile (n : Int) (w : World) : Calls Tryz.prog 109 #[.int .i64 n] w fun e w' => e = .returned (.bool (decide (0 ≤ n) && decide (n ≤ 256))) ∧ w' = w := by
 by_cases h1 : 0 ≤ n
 · have t1 : decide (n ≥ 0) = true := by simpa using h1
   by_cases h2 : n ≤ 256
   · go_enter Tryz.func109, Tryz.ntmps109
     go_wp2_with fail
     go_ret
     exact ⟨ret_bool (by simp [h1, h2]), rfl⟩
   · go_enter Tryz.func109, Tryz.ntmps109
     go_wp2_with fail
     go_ret
     exact ⟨ret_bool (by simp [h2]), rfl⟩
 · have t1 : decide (n ≥ 0) = false := by simpa using h1
   go_enter Tryz.func109, Tryz.ntmps109
   go_wp2_with fail
   go_ret
   exact ⟨ret_bool (by simp [h1]), rfl⟩
end Go.Proofs.YtmeafancgmkfkaaGreatDoor
