/-
  A journal in a quiet memory; what every law asks first.
-/
import Derived.Test.YtpaefllhngbimaaJu
namespace Go.Proofs.Ytpaefllhngbimaa
open Go.RowKit
set_option linter.unusedVariables false
set_option maxRecDepth 100000

/-- All that is seen lasts, and at f, n words long, lies a journal whose text is t. -/
structure Quiet (M : Pm) (f n : Nat) (t : ByteArray) : Prop where
  clean : Clean M M.seen
  rng : Rng M.seen
  fits : Fits M.seen f n
  look : lookOf M.seen f n = some t

/-- So many steps at most were taken. -/
structure Cnt (M : Pm) (k : Int) : Prop where
  s0 : 0 ≤ M.steps
  s1 : M.steps ≤ k
  t0 : 0 ≤ M.stores
  t1 : M.stores ≤ k

theorem Cnt.more {M : Pm} {k l : Int} (h : Cnt M k) (hl : k ≤ l) : Cnt M l := ⟨h.s0, by have := h.s1; omega, h.t0, by have := h.t1; omega⟩

theorem Cnt.repl {M : Pm} {k : Int} (h : Cnt M k) {X : List Int} {f n : Nat} {s : ByteArray} (hs : s.size ≤ roomOf n) : Cnt (M.run (replOps X f n s)) (k + 20000) := by
  have h1 := replOps_length X f n s (Nat.le_trans hs room_le)
  have h2 := run_stores (replOps X f n s) M
  have h3 := run_steps (replOps X f n s) M
  have := h.s0; have := h.s1; have := h.t0; have := h.t1
  exact ⟨by omega, by omega, by omega, by omega⟩

theorem Cnt.crash {M : Pm} {k : Int} (h : Cnt M k) (keep : Int) : Cnt (M.crash keep) k := ⟨h.s0, h.s1, h.t0, h.t1⟩

theorem Cnt.fuse {M : Pm} {k : Int} (h : Cnt M k) (l : Int) : Cnt (M.setFuse l) k := ⟨by rw [setFuse_steps]; exact h.s0, by rw [setFuse_steps]; exact h.s1, by rw [setFuse_stores]; exact h.t0, by rw [setFuse_stores]; exact h.t1⟩

theorem Cnt.fresh (n : Nat) : Cnt (fresh n) 0 := ⟨by simp [Go.Proofs.Ytpaefllhngbimaa.fresh], by simp [Go.Proofs.Ytpaefllhngbimaa.fresh], by simp [Go.Proofs.Ytpaefllhngbimaa.fresh], by simp [Go.Proofs.Ytpaefllhngbimaa.fresh]⟩

theorem run_seen_repl (M : Pm) (f n : Nat) (s : ByteArray) : (M.run (replOps M.seen f n s)).seen = Zof M.seen f n s := by rw [run_seen, repl_seen]

/-- A Write with the power, wherever a journal fits. -/
theorem quiet_repl {M : Pm} (hc : Clean M M.seen) (hr : Rng M.seen) {f n : Nat} (hx : Fits M.seen f n) (hf : M.fuse = none) {s : ByteArray} (hs : s.size ≤ roomOf n) :
    Quiet (M.run (replOps M.seen f n s)) f n s ∧ (M.run (replOps M.seen f n s)).fuse = none := by
  have h1 := repl_clean hc hf hx hs
  have hhi := hx.hi; have htop := hx.top
  refine ⟨⟨?_, ?_, ?_, ?_⟩, run_none _ hf⟩
  · rw [run_seen_repl]; exact h1
  · rw [run_seen_repl]; exact Z_rng hr (by omega) hs
  · rw [run_seen_repl]; exact hx.of_len (Z_length _ _ _ _)
  · rw [run_seen_repl]; exact look_new hx hs

theorem power_seen {M : Pm} (hf : FuseOk M) : M.withPower = M.seen := by
  rcases hf with h | ⟨k, _, h⟩ | h <;> simp [Pm.withPower, h]

theorem crash_seen {M : Pm} (hc : Clean M M.seen) (hf : FuseOk M) (keep : Int) : (M.crash keep).seen = M.seen := crash_still (power_seen hf) hc.lasts keep

/-- A crash of a quiet memory leaves it. -/
theorem Quiet.crash {M : Pm} {f n : Nat} {t : ByteArray} (h : Quiet M f n t) (hf : FuseOk M) (keep : Int) : Quiet (M.crash keep) f n t ∧ (M.crash keep).fuse = none := by
  have he := crash_seen h.clean hf keep
  refine ⟨⟨crash_clean M keep, ?_, ?_, ?_⟩, rfl⟩
  · rw [he]; exact h.rng
  · rw [he]; exact h.fits
  · rw [he]; exact h.look

theorem fresh_clean (n : Nat) : Clean (fresh n) (fresh n).seen := ⟨rfl, rfl, rfl⟩

theorem wordAt_replicate (n i : Nat) : wordAt (List.replicate n 0) i = 0 := by
  unfold wordAt
  rw [List.getD_eq_getElem?_getD, List.getElem?_replicate]
  split <;> rfl

theorem fresh_rng (n : Nat) : Rng (fresh n).seen := fun i => by
  have : wordAt (fresh n).seen i = 0 := wordAt_replicate n i
  rw [this]; omega

theorem fresh_none (n f m : Nat) : lookOf (fresh n).seen f m = none := by
  have : headOf (fresh n).seen f m = none := by
    unfold headOf
    have h0 : wordAt (fresh n).seen f = 0 := wordAt_replicate n f
    rw [h0, if_neg (by unfold sealW; omega), if_neg (by unfold sealW; omega)]
  unfold lookOf
  rw [this]

theorem fresh_fits {n f m : Nat} (h1 : f % 8 = 0) (h2 : 64 ≤ m) (h3 : f + m ≤ n) (h4 : n ≤ 65536) (h5 : n % 8 = 0) : Fits (fresh n).seen f m :=
  ⟨h1, h2, by simpa [fresh] using h3, by simpa [fresh] using h4, by simpa [fresh] using h5⟩

theorem room_of {n : Nat} (h : n ≤ 1000) (h2 : 64 ≤ n) : roomOf n = 2 * n - 64 := by unfold roomOf; omega

set_option maxHeartbeats 4000000 in
theorem awake_any (w : World) : Calls Try.prog 17 #[] w fun e w' => e = .returned (.bool true) ∧ Kept [] w w' := by
  have hfit : Fits (fresh 256).seen 8 200 := fresh_fits (by omega) (by omega) (by omega) (by omega) (by omega)
  have hroom : roomOf 200 = 336 := room_of (by omega) (by omega)
  obtain ⟨q1, f1⟩ := quiet_repl (fresh_clean 256) (fresh_rng 256) hfit rfl (s := ⟨#[]⟩) (Nat.zero_le _)
  have n1 := (Cnt.fresh 256).repl (X := (fresh 256).seen) (f := 8) (n := 200) (s := ⟨#[]⟩) (Nat.zero_le _)
  obtain ⟨M1, hM1⟩ : ∃ M1, M1 = (fresh 256).run (replOps (fresh 256).seen 8 200 ⟨#[]⟩) := ⟨_, rfl⟩
  rw [← hM1] at q1 f1 n1
  have hs : (ByteArray.mk #[104, 101, 108, 108, 111]).size ≤ roomOf 200 := by rw [hroom]; decide
  obtain ⟨q2, f2⟩ := quiet_repl q1.clean q1.rng q1.fits f1 hs
  have n2 := n1.repl (X := M1.seen) (f := 8) (n := 200) hs
  obtain ⟨M2, hM2⟩ : ∃ M2, M2 = M1.run (replOps M1.seen 8 200 ⟨#[104, 101, 108, 108, 111]⟩) := ⟨_, rfl⟩
  rw [← hM2] at q2 f2 n2
  obtain ⟨q3, f3⟩ := q2.crash (Or.inl f2) 0
  obtain ⟨M3, hM3⟩ : ∃ M3, M3 = M2.crash 0 := ⟨_, rfl⟩
  rw [← hM3] at q3 f3
  have hl3 : M3.seen.length ≤ 65536 := q3.fits.top
  go_enter Try.func17, Try.ntmps17
  go_wp2_with fail
  refine (u_new w 256 (by omega) (by omega) (by omega)).mono ?_
  rintro e w1 ⟨b, rfl, hm⟩
  have H1 : Hid (Hj [] w w1 b (fresh 256)) := hm.hj
  clear hm
  go_wp2_with (first
    | (go_at_call 14; refine (j_new H1.out (f := 8) (n := 200) hfit (by simp [fresh]) (by simp [fresh]) (by simp [fresh]) (by simp [fresh])).mono ?_; rintro e w2 ⟨j, rfl, hje, h2⟩; rw [← hM1] at h2; have H2 : Hid (Hj [(j, jn b 8 200)] w w2 b M1) := h2; clear h2 hje))
  refine (j_write H2.out (f := 8) (n := 200) (by simp) q1.fits _ hs n1.s0 (by have := n1.s1; omega) n1.t0 (by have := n1.t1; omega)).mono ?_
  rintro e w3 ⟨rfl, h3⟩
  rw [← hM2] at h3
  have H3 : Hid (Hj [(j, jn b 8 200)] w w3 b M2) := h3
  clear h3 H2 H1
  go_wp2_with fail
  refine (h_crash H3.out 0 (by decide)).mono ?_
  rintro e w4 ⟨rfl, h4⟩
  rw [← hM3] at h4
  have H4 : Hid (Hj [(j, jn b 8 200)] w w4 b M3) := h4
  clear h4 H3
  go_wp2_with fail
  refine (j_open H4.out (f := 8) (n := 200) q3.fits q3.rng q3.look).mono ?_
  rintro e w5 ⟨k, rfl, -, h5, -⟩
  have H5 : Hid (Hj [(k, jn b 8 200), (j, jn b 8 200)] w w5 b M3) := h5
  clear h5 H4
  go_wp2_with fail
  refine (u_new w5 256 (by omega) (by omega) (by omega)).mono ?_
  rintro e w6 ⟨o, rfl, ho⟩
  have HO : Hid (Hj [] w5 w6 o (fresh 256)) := ho.hj
  have H6 : Hid (Hj [(k, jn b 8 200), (j, jn b 8 200)] w w6 b M3) := H5.out.still ho.1
  clear ho H5
  go_wp2_with fail
  refine (j_open_none HO.out (f := 8) (n := 200) hfit (fresh_rng 256) (fresh_none _ _ _)).mono ?_
  rintro e w7 ⟨rfl, -, hk7⟩
  have H7 : Hid (Hj [(k, jn b 8 200), (j, jn b 8 200)] w w7 b M3) := H6.out.still hk7
  clear hk7 HO H6
  go_wp2_with fail
  refine (j_new_bad H7.out hl3 (f := 4) (n := 200) (by omega) (by omega) (by omega)).mono ?_
  rintro e w8 ⟨rfl, hw8⟩
  have hw9 := hw8.symm
  subst hw9
  clear hw8
  have HQ : Hid (Quiet M3 8 200 ⟨#[104, 101, 108, 108, 111]⟩) := q3
  clear q1 q2 q3 f1 f2 f3 n1 n2 hM1 hM2 hM3 hs hl3 hfit hroom
  have tok1 : True := trivial
  go_wp2_with (first
    | (go_at_call 10; refine (u_num _ _).mono ?_; rintro e w' ⟨rfl, rfl⟩)
    | (go_at_call 22; clear tok1; refine (j_read H7.out (j := j) (f := 8) (n := 200) (by simp) HQ.out.fits HQ.out.rng HQ.out.look).mono ?_; rintro e w9 ⟨rfl, h9⟩; have H9 : Hid (Hj [(k, jn b 8 200), (j, jn b 8 200)] w w9 b M3) := H7.out.still h9; clear h9)
    | (go_at_call 22; refine (j_read H9.out (j := k) (f := 8) (n := 200) (by simp) HQ.out.fits HQ.out.rng HQ.out.look).mono ?_; rintro e w10 ⟨rfl, h10⟩; have H10 : Hid (Hj [(k, jn b 8 200), (j, jn b 8 200)] w w10 b M3) := H9.out.still h10; clear h10))
  go_ret
  exact ⟨rfl, H10.out.1⟩

end Go.Proofs.Ytpaefllhngbimaa
