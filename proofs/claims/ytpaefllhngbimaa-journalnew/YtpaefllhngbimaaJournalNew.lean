/-
  concourselaw21.JournalNew returns true for every text, fuse and keep: a journal that is made anew is empty; cut off it is none, empty, or as it was. No condition.
-/
import Derived.Test.YtpaefllhngbimaaRows
import Derived.Test.YtpaefllhngbimaaJd
import Derived.WalkKit
import Derived.ProofKit
import Derived.OpenShut
import Derived.ShutString
import Derived.ChangeOld
import Derived.Below
import Derived.Deep.Slices
import Derived.SizedLaws
namespace Go.Proofs.Ytpaefllhngbimaa.journalNew
open Go.ChangeShapes Go.WideShapes Go.ChangeAt Go.RowKit
open Go.ChangeMaps (open_string shut_string)
set_option linter.unusedVariables false

theorem own : ownKnob Try.prog.godebug = none := by kernel_rfl
theorem laidOut : laidOutB Try.prog = true := by kernel_rfl

set_option maxRecDepth 100000 in
set_option maxHeartbeats 4000000 in
theorem mainA (s : ByteArray) (fu kp : Int) (w : World) (hkp : kp ≤ 9223372036854775807) (hl : 100 < s.size) (hss : s.size ≤ 140737488351232) :
    Calls Try.prog 5 #[.string s, .int .i64 fu, .int .i64 kp] w fun e w' => e = .returned (.bool true) ∧ Kept [] w w' := by
  obtain ⟨t, ht⟩ : ∃ t, t = s.extract 0 100 := ⟨_, rfl⟩
  have ht1 : t.size ≤ 100 := by rw [ht]; rw [ByteArray.size_extract]; omega
  have hroom : roomOf 128 = 192 := room_of (by omega) (by omega)
  have hts : t.size ≤ roomOf 128 := by omega
  have hfit : Fits (fresh 128).seen 0 128 := fresh_fits (by omega) (by omega) (by omega) (by omega) (by omega)
  obtain ⟨q1, f1⟩ := quiet_repl (fresh_clean 128) (fresh_rng 128) hfit rfl (s := ⟨#[]⟩) (Nat.zero_le _)
  have n1 := (Cnt.fresh 128).repl (X := (fresh 128).seen) (f := 0) (n := 128) (s := ⟨#[]⟩) (Nat.zero_le _)
  obtain ⟨M1, hM1⟩ : ∃ M1, M1 = (fresh 128).run (replOps (fresh 128).seen 0 128 ⟨#[]⟩) := ⟨_, rfl⟩
  rw [← hM1] at q1 f1 n1
  obtain ⟨q2, f2⟩ := quiet_repl q1.clean q1.rng q1.fits f1 hts
  have n2 := n1.repl (X := M1.seen) (f := 0) (n := 128) hts
  obtain ⟨M2, hM2⟩ : ∃ M2, M2 = M1.run (replOps M1.seen 0 128 t) := ⟨_, rfl⟩
  rw [← hM2] at q2 f2 n2
  obtain ⟨q3, f3⟩ := quiet_repl q2.clean q2.rng q2.fits f2 (s := ⟨#[]⟩) (Nat.zero_le _)
  have n3 := n2.repl (X := M2.seen) (f := 0) (n := 128) (s := ⟨#[]⟩) (Nat.zero_le _)
  obtain ⟨M3, hM3⟩ : ∃ M3, M3 = M2.run (replOps M2.seen 0 128 ⟨#[]⟩) := ⟨_, rfl⟩
  rw [← hM3] at q3 f3 n3
  obtain ⟨q4, f4⟩ := q3.crash (Or.inl f3) kp
  obtain ⟨M4, hM4⟩ : ∃ M4, M4 = M3.crash kp := ⟨_, rfl⟩
  rw [← hM4] at q4 f4
  obtain ⟨k, hk, hk2⟩ : ∃ k : Nat, bits .and .i64 fu 63 = (k : Int) ∧ k < 64 := ⟨(fu % 64).toNat, by rw [i64_and63]; omega, by omega⟩
  obtain ⟨c5, f5, e5⟩ := fuse_quiet q2.clean (Or.inl f2) (k : Int) (by omega)
  have q5 : Quiet (M2.setFuse (k : Int)) 0 128 t := ⟨c5, by rw [e5]; exact q2.rng, by rw [e5]; exact q2.fits, by rw [e5]; exact q2.look⟩
  have n5 := n2.fuse (k : Int)
  obtain ⟨M5, hM5⟩ : ∃ M5, M5 = M2.setFuse (k : Int) := ⟨_, rfl⟩
  rw [← hM5] at q5 f5 n5
  obtain ⟨q7, -⟩ := cut_quiet q5 f5 (s := ⟨#[]⟩) (Nat.zero_le _) kp
  obtain ⟨M6, hM6⟩ : ∃ M6, M6 = M5.run (replOps M5.seen 0 128 ⟨#[]⟩) := ⟨_, rfl⟩
  rw [← hM6] at q7
  obtain ⟨M7, hM7⟩ : ∃ M7, M7 = M6.crash kp := ⟨_, rfl⟩
  rw [← hM7] at q7
  have HQ1 : Hid (Quiet M1 0 128 ⟨#[]⟩) := q1
  have HQ2 : Hid (Quiet M2 0 128 t) := q2
  have HQ3 : Hid (Quiet M3 0 128 ⟨#[]⟩) := q3
  have HQ4 : Hid (Quiet M4 0 128 ⟨#[]⟩) := q4
  have HQ5 : Hid (Quiet M5 0 128 t) := q5
  have HN1 : Hid (Cnt M1 _) := n1
  have HN2 : Hid (Cnt M2 _) := n2
  have HN5 : Hid (Cnt M5 _) := n5
  have HQ7 : Hid (Quiet M7 0 128 t ∨ Quiet M7 0 128 ⟨#[]⟩) := q7
  have HT : Hid (t.size ≤ roomOf 128) := hts
  have hel := empty_list
  clear q1 q2 q3 q4 q5 q7 n1 n2 n3 n5 f1 f2 f3 f4 f5 c5 e5 hts hroom ht1
  go_enter Try.func5, Try.ntmps5
  go_wp2_with fail
  refine (awake_any w).mono ?_
  rintro e w1 ⟨rfl, hk0⟩
  have H0 : Hid (Kept [] w w1) := hk0
  clear hk0
  go_wp2_with fail
  refine (u_new w1 128 (by omega) (by omega) (by omega)).mono ?_
  rintro e w2 ⟨b, rfl, hm⟩
  have H1 : Hid (Hj [] w1 w2 b (fresh 128)) := hm.hj
  clear hm
  go_wp2_with fail
  refine (j_new H1.out (f := 0) (n := 128) hfit (by simp [fresh]) (by simp [fresh]) (by simp [fresh]) (by simp [fresh])).mono ?_
  rintro e w3 ⟨j, rfl, -, h3⟩
  rw [← hM1] at h3
  have H3 : Hid (Hj [(j, jn b 0 128)] w1 w3 b M1) := h3
  clear h3 hM1 H1 hfit
  go_wp2_with fail
  rw [← ht]
  clear ht
  refine (j_write H3.out (f := 0) (n := 128) (by simp) HQ1.out.fits t HT.out HN1.out.s0 (by have := HN1.out.s1; omega) HN1.out.t0 (by have := HN1.out.t1; omega)).mono ?_
  rintro e w4 ⟨rfl, h4⟩
  rw [← hM2] at h4
  have H4 : Hid (Hj [(j, jn b 0 128)] w1 w4 b M2) := h4
  clear h4 hM2 H3
  go_wp2_with fail
  refine (h_copy H4.out).mono ?_
  rintro e w5 ⟨c, rfl, h5, hc, -⟩
  have H5 : Hid (Hj [(j, jn b 0 128)] w1 w5 b M2) := h5
  have C5 : Hid (Hj [] w4 w5 c M2) := hc.hj
  clear h5 hc
  go_wp2_with fail
  refine (j_new C5.out (f := 0) (n := 128) HQ2.out.fits HN2.out.s0 (by have := HN2.out.s1; omega) HN2.out.t0 (by have := HN2.out.t1; omega)).mono ?_
  rintro e w6 ⟨g, rfl, -, h6⟩
  rw [← hM3] at h6
  have C6 : Hid (Hj [(g, jn c 0 128)] w4 w6 c M3) := h6
  clear h6 hM3 C5
  go_wp2_with (first
    | (go_at_call 10; refine (u_num _ _).mono ?_; rintro e w' ⟨rfl, rfl⟩)
    | (go_at_call 22; refine (j_read C6.out (j := g) (f := 0) (n := 128) (by simp) HQ3.out.fits HQ3.out.rng HQ3.out.look).mono ?_; rintro e w7 ⟨rfl, h7⟩; have C7 : Hid (Hj [(g, jn c 0 128)] w4 w7 c M3) := C6.out.still h7; clear h7))
  refine (h_crash C7.out kp hkp).mono ?_
  rintro e w8 ⟨rfl, h8⟩
  rw [← hM4] at h8
  have C8 : Hid (Hj [(g, jn c 0 128)] w4 w8 c M4) := h8
  clear h8 hM4 C7 C6
  go_wp2_with fail
  refine (j_open C8.out (f := 0) (n := 128) HQ4.out.fits HQ4.out.rng HQ4.out.look).mono ?_
  rintro e w9 ⟨o, rfl, -, h9, -⟩
  have C9 : Hid (Hj [(o, jn c 0 128), (g, jn c 0 128)] w4 w9 c M4) := h9
  clear h9 C8
  go_wp2_with (first
    | (go_at_call 10; refine (u_num _ _).mono ?_; rintro e w' ⟨rfl, rfl⟩)
    | (go_at_call 22; refine (j_read C9.out (j := o) (f := 0) (n := 128) (by simp) HQ4.out.fits HQ4.out.rng HQ4.out.look).mono ?_; rintro e w10 ⟨rfl, h10⟩; have C10 : Hid (Hj [(o, jn c 0 128), (g, jn c 0 128)] w4 w10 c M4) := C9.out.still h10; clear h10))
  have H10 : Hid (Hj [(j, jn b 0 128)] w1 w10 b M2) := H4.out.still C10.out.1
  clear C10 C9 H5 H4
  refine (h_fuse H10.out (k : Int) (by omega) (by omega)).mono ?_
  rintro e w11 ⟨rfl, h11⟩
  rw [← hM5] at h11
  have H11 : Hid (Hj [(j, jn b 0 128)] w1 w11 b M5) := h11
  clear h11 hM5 H10
  go_wp2_with fail
  refine (j_new H11.out (f := 0) (n := 128) HQ5.out.fits HN5.out.s0 (by have := HN5.out.s1; omega) HN5.out.t0 (by have := HN5.out.t1; omega)).mono ?_
  rintro e w12 ⟨g2, rfl, -, h12⟩
  rw [← hM6] at h12
  have H12 : Hid (Hj [(g2, jn b 0 128), (j, jn b 0 128)] w1 w12 b M6) := h12
  clear h12 hM6 H11
  go_wp2_with fail
  refine (h_crash H12.out kp hkp).mono ?_
  rintro e w13 ⟨rfl, h13⟩
  rw [← hM7] at h13
  have H13 : Hid (Hj [(g2, jn b 0 128), (j, jn b 0 128)] w1 w13 b M7) := h13
  clear h13 hM7 H12
  go_wp2_with fail
  rcases HQ7.out with q | q
  · have HQ : Hid (Quiet M7 0 128 t) := q
    clear q HQ7
    refine (j_open H13.out (f := 0) (n := 128) HQ.out.fits HQ.out.rng HQ.out.look).mono ?_
    rintro e w14 ⟨p, rfl, -, h14, -⟩
    have H14 : Hid (Hj [(p, jn b 0 128), (g2, jn b 0 128), (j, jn b 0 128)] w1 w14 b M7) := h14
    clear h14 H13
    cases hte : t.toList.isEmpty with
    | true =>
      go_wp2_with (first
        | (go_at_call 10; refine (u_num _ _).mono ?_; rintro e w' ⟨rfl, rfl⟩)
        | (go_at_call 22; refine (j_read H14.out (j := p) (f := 0) (n := 128) (by simp) HQ.out.fits HQ.out.rng HQ.out.look).mono ?_; rintro e w15 ⟨rfl, h15⟩; have H15 : Hid (Hj [(p, jn b 0 128), (g2, jn b 0 128), (j, jn b 0 128)] w1 w15 b M7) := H14.out.still h15; clear h15 H14)
        | (go_at_call 22; refine (j_read H15.out (j := p) (f := 0) (n := 128) (by simp) HQ.out.fits HQ.out.rng HQ.out.look).mono ?_; rintro e w16 ⟨rfl, h16⟩; have H16 : Hid (Hj [(p, jn b 0 128), (g2, jn b 0 128), (j, jn b 0 128)] w1 w16 b M7) := H15.out.still h16; clear h16 H15))
      go_ret
      exact ⟨rfl, H0.out.trans H15.out.1 (by simp)⟩
    | false =>
      go_wp2_with (first
        | (go_at_call 10; refine (u_num _ _).mono ?_; rintro e w' ⟨rfl, rfl⟩)
        | (go_at_call 22; refine (j_read H14.out (j := p) (f := 0) (n := 128) (by simp) HQ.out.fits HQ.out.rng HQ.out.look).mono ?_; rintro e w15 ⟨rfl, h15⟩; have H15 : Hid (Hj [(p, jn b 0 128), (g2, jn b 0 128), (j, jn b 0 128)] w1 w15 b M7) := H14.out.still h15; clear h15 H14)
        | (go_at_call 22; refine (j_read H15.out (j := p) (f := 0) (n := 128) (by simp) HQ.out.fits HQ.out.rng HQ.out.look).mono ?_; rintro e w16 ⟨rfl, h16⟩; have H16 : Hid (Hj [(p, jn b 0 128), (g2, jn b 0 128), (j, jn b 0 128)] w1 w16 b M7) := H15.out.still h16; clear h16 H15))
      go_ret
      exact ⟨rfl, H0.out.trans H16.out.1 (by simp)⟩
  · have HQ : Hid (Quiet M7 0 128 ⟨#[]⟩) := q
    clear q HQ7
    refine (j_open H13.out (f := 0) (n := 128) HQ.out.fits HQ.out.rng HQ.out.look).mono ?_
    rintro e w14 ⟨p, rfl, -, h14, -⟩
    have H14 : Hid (Hj [(p, jn b 0 128), (g2, jn b 0 128), (j, jn b 0 128)] w1 w14 b M7) := h14
    clear h14 H13
    go_wp2_with (first
      | (go_at_call 10; refine (u_num _ _).mono ?_; rintro e w' ⟨rfl, rfl⟩)
      | (go_at_call 22; refine (j_read H14.out (j := p) (f := 0) (n := 128) (by simp) HQ.out.fits HQ.out.rng HQ.out.look).mono ?_; rintro e w15 ⟨rfl, h15⟩; have H15 : Hid (Hj [(p, jn b 0 128), (g2, jn b 0 128), (j, jn b 0 128)] w1 w15 b M7) := H14.out.still h15; clear h15 H14)
      | (go_at_call 22; refine (j_read H15.out (j := p) (f := 0) (n := 128) (by simp) HQ.out.fits HQ.out.rng HQ.out.look).mono ?_; rintro e w16 ⟨rfl, h16⟩; have H16 : Hid (Hj [(p, jn b 0 128), (g2, jn b 0 128), (j, jn b 0 128)] w1 w16 b M7) := H15.out.still h16; clear h16 H15))
    go_ret
    exact ⟨rfl, H0.out.trans H15.out.1 (by simp)⟩

set_option maxRecDepth 100000 in
set_option maxHeartbeats 4000000 in
theorem mainB (s : ByteArray) (fu kp : Int) (w : World) (hkp : kp ≤ 9223372036854775807) (hl : ¬ 100 < s.size) (hss : s.size ≤ 140737488351232) :
    Calls Try.prog 5 #[.string s, .int .i64 fu, .int .i64 kp] w fun e w' => e = .returned (.bool true) ∧ Kept [] w w' := by
  obtain ⟨t, ht⟩ : ∃ t, t = s := ⟨_, rfl⟩
  have ht1 : t.size ≤ 100 := by rw [ht]; omega
  have hroom : roomOf 128 = 192 := room_of (by omega) (by omega)
  have hts : t.size ≤ roomOf 128 := by omega
  have hfit : Fits (fresh 128).seen 0 128 := fresh_fits (by omega) (by omega) (by omega) (by omega) (by omega)
  obtain ⟨q1, f1⟩ := quiet_repl (fresh_clean 128) (fresh_rng 128) hfit rfl (s := ⟨#[]⟩) (Nat.zero_le _)
  have n1 := (Cnt.fresh 128).repl (X := (fresh 128).seen) (f := 0) (n := 128) (s := ⟨#[]⟩) (Nat.zero_le _)
  obtain ⟨M1, hM1⟩ : ∃ M1, M1 = (fresh 128).run (replOps (fresh 128).seen 0 128 ⟨#[]⟩) := ⟨_, rfl⟩
  rw [← hM1] at q1 f1 n1
  obtain ⟨q2, f2⟩ := quiet_repl q1.clean q1.rng q1.fits f1 hts
  have n2 := n1.repl (X := M1.seen) (f := 0) (n := 128) hts
  obtain ⟨M2, hM2⟩ : ∃ M2, M2 = M1.run (replOps M1.seen 0 128 t) := ⟨_, rfl⟩
  rw [← hM2] at q2 f2 n2
  obtain ⟨q3, f3⟩ := quiet_repl q2.clean q2.rng q2.fits f2 (s := ⟨#[]⟩) (Nat.zero_le _)
  have n3 := n2.repl (X := M2.seen) (f := 0) (n := 128) (s := ⟨#[]⟩) (Nat.zero_le _)
  obtain ⟨M3, hM3⟩ : ∃ M3, M3 = M2.run (replOps M2.seen 0 128 ⟨#[]⟩) := ⟨_, rfl⟩
  rw [← hM3] at q3 f3 n3
  obtain ⟨q4, f4⟩ := q3.crash (Or.inl f3) kp
  obtain ⟨M4, hM4⟩ : ∃ M4, M4 = M3.crash kp := ⟨_, rfl⟩
  rw [← hM4] at q4 f4
  obtain ⟨k, hk, hk2⟩ : ∃ k : Nat, bits .and .i64 fu 63 = (k : Int) ∧ k < 64 := ⟨(fu % 64).toNat, by rw [i64_and63]; omega, by omega⟩
  obtain ⟨c5, f5, e5⟩ := fuse_quiet q2.clean (Or.inl f2) (k : Int) (by omega)
  have q5 : Quiet (M2.setFuse (k : Int)) 0 128 t := ⟨c5, by rw [e5]; exact q2.rng, by rw [e5]; exact q2.fits, by rw [e5]; exact q2.look⟩
  have n5 := n2.fuse (k : Int)
  obtain ⟨M5, hM5⟩ : ∃ M5, M5 = M2.setFuse (k : Int) := ⟨_, rfl⟩
  rw [← hM5] at q5 f5 n5
  obtain ⟨q7, -⟩ := cut_quiet q5 f5 (s := ⟨#[]⟩) (Nat.zero_le _) kp
  obtain ⟨M6, hM6⟩ : ∃ M6, M6 = M5.run (replOps M5.seen 0 128 ⟨#[]⟩) := ⟨_, rfl⟩
  rw [← hM6] at q7
  obtain ⟨M7, hM7⟩ : ∃ M7, M7 = M6.crash kp := ⟨_, rfl⟩
  rw [← hM7] at q7
  have HQ1 : Hid (Quiet M1 0 128 ⟨#[]⟩) := q1
  have HQ2 : Hid (Quiet M2 0 128 t) := q2
  have HQ3 : Hid (Quiet M3 0 128 ⟨#[]⟩) := q3
  have HQ4 : Hid (Quiet M4 0 128 ⟨#[]⟩) := q4
  have HQ5 : Hid (Quiet M5 0 128 t) := q5
  have HN1 : Hid (Cnt M1 _) := n1
  have HN2 : Hid (Cnt M2 _) := n2
  have HN5 : Hid (Cnt M5 _) := n5
  have HQ7 : Hid (Quiet M7 0 128 t ∨ Quiet M7 0 128 ⟨#[]⟩) := q7
  have HT : Hid (t.size ≤ roomOf 128) := hts
  have hel := empty_list
  clear q1 q2 q3 q4 q5 q7 n1 n2 n3 n5 f1 f2 f3 f4 f5 c5 e5 hts hroom ht1
  go_enter Try.func5, Try.ntmps5
  go_wp2_with fail
  refine (awake_any w).mono ?_
  rintro e w1 ⟨rfl, hk0⟩
  have H0 : Hid (Kept [] w w1) := hk0
  clear hk0
  go_wp2_with fail
  refine (u_new w1 128 (by omega) (by omega) (by omega)).mono ?_
  rintro e w2 ⟨b, rfl, hm⟩
  have H1 : Hid (Hj [] w1 w2 b (fresh 128)) := hm.hj
  clear hm
  go_wp2_with fail
  refine (j_new H1.out (f := 0) (n := 128) hfit (by simp [fresh]) (by simp [fresh]) (by simp [fresh]) (by simp [fresh])).mono ?_
  rintro e w3 ⟨j, rfl, -, h3⟩
  rw [← hM1] at h3
  have H3 : Hid (Hj [(j, jn b 0 128)] w1 w3 b M1) := h3
  clear h3 hM1 H1 hfit
  go_wp2_with fail
  subst ht
  refine (j_write H3.out (f := 0) (n := 128) (by simp) HQ1.out.fits t HT.out HN1.out.s0 (by have := HN1.out.s1; omega) HN1.out.t0 (by have := HN1.out.t1; omega)).mono ?_
  rintro e w4 ⟨rfl, h4⟩
  rw [← hM2] at h4
  have H4 : Hid (Hj [(j, jn b 0 128)] w1 w4 b M2) := h4
  clear h4 hM2 H3
  go_wp2_with fail
  refine (h_copy H4.out).mono ?_
  rintro e w5 ⟨c, rfl, h5, hc, -⟩
  have H5 : Hid (Hj [(j, jn b 0 128)] w1 w5 b M2) := h5
  have C5 : Hid (Hj [] w4 w5 c M2) := hc.hj
  clear h5 hc
  go_wp2_with fail
  refine (j_new C5.out (f := 0) (n := 128) HQ2.out.fits HN2.out.s0 (by have := HN2.out.s1; omega) HN2.out.t0 (by have := HN2.out.t1; omega)).mono ?_
  rintro e w6 ⟨g, rfl, -, h6⟩
  rw [← hM3] at h6
  have C6 : Hid (Hj [(g, jn c 0 128)] w4 w6 c M3) := h6
  clear h6 hM3 C5
  go_wp2_with (first
    | (go_at_call 10; refine (u_num _ _).mono ?_; rintro e w' ⟨rfl, rfl⟩)
    | (go_at_call 22; refine (j_read C6.out (j := g) (f := 0) (n := 128) (by simp) HQ3.out.fits HQ3.out.rng HQ3.out.look).mono ?_; rintro e w7 ⟨rfl, h7⟩; have C7 : Hid (Hj [(g, jn c 0 128)] w4 w7 c M3) := C6.out.still h7; clear h7))
  refine (h_crash C7.out kp hkp).mono ?_
  rintro e w8 ⟨rfl, h8⟩
  rw [← hM4] at h8
  have C8 : Hid (Hj [(g, jn c 0 128)] w4 w8 c M4) := h8
  clear h8 hM4 C7 C6
  go_wp2_with fail
  refine (j_open C8.out (f := 0) (n := 128) HQ4.out.fits HQ4.out.rng HQ4.out.look).mono ?_
  rintro e w9 ⟨o, rfl, -, h9, -⟩
  have C9 : Hid (Hj [(o, jn c 0 128), (g, jn c 0 128)] w4 w9 c M4) := h9
  clear h9 C8
  go_wp2_with (first
    | (go_at_call 10; refine (u_num _ _).mono ?_; rintro e w' ⟨rfl, rfl⟩)
    | (go_at_call 22; refine (j_read C9.out (j := o) (f := 0) (n := 128) (by simp) HQ4.out.fits HQ4.out.rng HQ4.out.look).mono ?_; rintro e w10 ⟨rfl, h10⟩; have C10 : Hid (Hj [(o, jn c 0 128), (g, jn c 0 128)] w4 w10 c M4) := C9.out.still h10; clear h10))
  have H10 : Hid (Hj [(j, jn b 0 128)] w1 w10 b M2) := H4.out.still C10.out.1
  clear C10 C9 H5 H4
  refine (h_fuse H10.out (k : Int) (by omega) (by omega)).mono ?_
  rintro e w11 ⟨rfl, h11⟩
  rw [← hM5] at h11
  have H11 : Hid (Hj [(j, jn b 0 128)] w1 w11 b M5) := h11
  clear h11 hM5 H10
  go_wp2_with fail
  refine (j_new H11.out (f := 0) (n := 128) HQ5.out.fits HN5.out.s0 (by have := HN5.out.s1; omega) HN5.out.t0 (by have := HN5.out.t1; omega)).mono ?_
  rintro e w12 ⟨g2, rfl, -, h12⟩
  rw [← hM6] at h12
  have H12 : Hid (Hj [(g2, jn b 0 128), (j, jn b 0 128)] w1 w12 b M6) := h12
  clear h12 hM6 H11
  go_wp2_with fail
  refine (h_crash H12.out kp hkp).mono ?_
  rintro e w13 ⟨rfl, h13⟩
  rw [← hM7] at h13
  have H13 : Hid (Hj [(g2, jn b 0 128), (j, jn b 0 128)] w1 w13 b M7) := h13
  clear h13 hM7 H12
  go_wp2_with fail
  rcases HQ7.out with q | q
  · have HQ : Hid (Quiet M7 0 128 t) := q
    clear q HQ7
    refine (j_open H13.out (f := 0) (n := 128) HQ.out.fits HQ.out.rng HQ.out.look).mono ?_
    rintro e w14 ⟨p, rfl, -, h14, -⟩
    have H14 : Hid (Hj [(p, jn b 0 128), (g2, jn b 0 128), (j, jn b 0 128)] w1 w14 b M7) := h14
    clear h14 H13
    cases hte : t.toList.isEmpty with
    | true =>
      go_wp2_with (first
        | (go_at_call 10; refine (u_num _ _).mono ?_; rintro e w' ⟨rfl, rfl⟩)
        | (go_at_call 22; refine (j_read H14.out (j := p) (f := 0) (n := 128) (by simp) HQ.out.fits HQ.out.rng HQ.out.look).mono ?_; rintro e w15 ⟨rfl, h15⟩; have H15 : Hid (Hj [(p, jn b 0 128), (g2, jn b 0 128), (j, jn b 0 128)] w1 w15 b M7) := H14.out.still h15; clear h15 H14)
        | (go_at_call 22; refine (j_read H15.out (j := p) (f := 0) (n := 128) (by simp) HQ.out.fits HQ.out.rng HQ.out.look).mono ?_; rintro e w16 ⟨rfl, h16⟩; have H16 : Hid (Hj [(p, jn b 0 128), (g2, jn b 0 128), (j, jn b 0 128)] w1 w16 b M7) := H15.out.still h16; clear h16 H15))
      go_ret
      exact ⟨rfl, H0.out.trans H15.out.1 (by simp)⟩
    | false =>
      go_wp2_with (first
        | (go_at_call 10; refine (u_num _ _).mono ?_; rintro e w' ⟨rfl, rfl⟩)
        | (go_at_call 22; refine (j_read H14.out (j := p) (f := 0) (n := 128) (by simp) HQ.out.fits HQ.out.rng HQ.out.look).mono ?_; rintro e w15 ⟨rfl, h15⟩; have H15 : Hid (Hj [(p, jn b 0 128), (g2, jn b 0 128), (j, jn b 0 128)] w1 w15 b M7) := H14.out.still h15; clear h15 H14)
        | (go_at_call 22; refine (j_read H15.out (j := p) (f := 0) (n := 128) (by simp) HQ.out.fits HQ.out.rng HQ.out.look).mono ?_; rintro e w16 ⟨rfl, h16⟩; have H16 : Hid (Hj [(p, jn b 0 128), (g2, jn b 0 128), (j, jn b 0 128)] w1 w16 b M7) := H15.out.still h16; clear h16 H15))
      go_ret
      exact ⟨rfl, H0.out.trans H16.out.1 (by simp)⟩
  · have HQ : Hid (Quiet M7 0 128 ⟨#[]⟩) := q
    clear q HQ7
    refine (j_open H13.out (f := 0) (n := 128) HQ.out.fits HQ.out.rng HQ.out.look).mono ?_
    rintro e w14 ⟨p, rfl, -, h14, -⟩
    have H14 : Hid (Hj [(p, jn b 0 128), (g2, jn b 0 128), (j, jn b 0 128)] w1 w14 b M7) := h14
    clear h14 H13
    go_wp2_with (first
      | (go_at_call 10; refine (u_num _ _).mono ?_; rintro e w' ⟨rfl, rfl⟩)
      | (go_at_call 22; refine (j_read H14.out (j := p) (f := 0) (n := 128) (by simp) HQ.out.fits HQ.out.rng HQ.out.look).mono ?_; rintro e w15 ⟨rfl, h15⟩; have H15 : Hid (Hj [(p, jn b 0 128), (g2, jn b 0 128), (j, jn b 0 128)] w1 w15 b M7) := H14.out.still h15; clear h15 H14)
      | (go_at_call 22; refine (j_read H15.out (j := p) (f := 0) (n := 128) (by simp) HQ.out.fits HQ.out.rng HQ.out.look).mono ?_; rintro e w16 ⟨rfl, h16⟩; have H16 : Hid (Hj [(p, jn b 0 128), (g2, jn b 0 128), (j, jn b 0 128)] w1 w16 b M7) := H15.out.still h16; clear h16 H15))
    go_ret
    exact ⟨rfl, H0.out.trans H15.out.1 (by simp)⟩

theorem walk (s : ByteArray) (fu kp : Int) (w : World) (hs : s.size ≤ 140737488351232) (_ : (Lit.int .i64 fu).wf = true) (hkw : (Lit.int .i64 kp).wf = true) :
    Calls Try.prog 5 #[.string s, .int .i64 fu, .int .i64 kp] w fun e w' => e = .returned (.bool true) ∧ Below w.heap.size w w' := by
  have hkp : kp ≤ 9223372036854775807 := top_i64 hkw
  have key : Calls Try.prog 5 #[.string s, .int .i64 fu, .int .i64 kp] w fun e w' => e = .returned (.bool true) ∧ Kept [] w w' := by
    by_cases hl : 100 < s.size
    · exact mainA s fu kp w hkp hl hs
    · exact mainB s fu kp w hkp hl hs
  exact key.mono fun e w' h => ⟨h.1, bel h.2⟩


set_option maxRecDepth 100000 in
theorem lifted (os : Os) (started : os.Started) (H : Type) (enc : TypeId × Value → H) :
    ReturnsInHanded {} Try.checked os 5 .any (Rows.journalNewSpec.pre6 enc Try.prog Try.f5 Rows.journalNewRow.domain false) (Rows.journalNewSpec.post enc Try.prog Try.f5 false true false false) := by
  refine returnsInHanded_of_change_sized (C := Try.checked) own started (by kernel_rfl) Try.func5
    (ChangeSpec.witness6 (enc := enc) (C := Try.checked) false ⟨#[], #[.string ⟨#[]⟩, .int .i64 0, .int .i64 0], []⟩ 8 (by kernel_rfl) (by kernel_rfl) (by kernel_rfl) (by kernel_rfl)) ?_
  intro W base args ds gs before hval0 hW hcnd hsz0 _
  have hval : ∀ (j : Nat) t v, Try.f5.params[j]? = some t → args[j]? = some v → Value.okWide Try.prog W .any base t v := hval0
  have hW' := hW
  obtain ⟨p, q, hA0, hV, rfl, hfz, hnd⟩ := hW
  have hA : DataW.TrodAll enc Try.prog W 0 (fun _ => true) true Try.f5.params.toList args.toList ds p := hA0
  have hsz : (DataW.weightsEach Try.prog (Try.f5.params.toList ++ Rows.journalNewSpec.plain.varTypes Try.prog) (ds ++ gs)).all (· ≤ reachBytes) = true := hsz0
  rw [Try.params5] at hA hval hsz
  obtain ⟨v0, vs0, d0, ds0, p0, q0, hargs, rfl, rfl, h0, r0⟩ := trodAll_cons hA
  obtain ⟨v1, vs1, d1, ds1, p1, q1, rfl, rfl, rfl, h1, r1⟩ := trodAll_cons r0
  obtain ⟨v2, vs2, d2, ds2, p2, q2, rfl, rfl, rfl, h2, r2⟩ := trodAll_cons r1
  obtain ⟨rfl, rfl, rfl⟩ := trodAll_nil r2
  obtain rfl : args = #[v0, v1, v2] := by cases args; simp_all
  obtain ⟨rfl, rfl⟩ := trodVars_none hV
  obtain ⟨a0, rfl, rfl, rfl, m0⟩ := open_string Try.underlying9 (hval 0 9 v0 rfl rfl) h0
  have w0 : a0.size ≤ 140737488351232 := by have := sized_string hsz (j := 0) rfl rfl; simpa [reachBytes] using this
  obtain ⟨a1, rfl, rfl, rfl, w1⟩ := open_int Try.underlying3 (hval 1 3 v1 rfl rfl) h1
  obtain ⟨a2, rfl, rfl, rfl, w2⟩ := open_int Try.underlying3 (hval 2 3 v2 rfl rfl) h2
  clear hA0 hval0
  refine (walk a0 a1 a2 W w0 w1 w2).mono fun e W' ⟨he, bel⟩ => ?_
  subst he
  simp only [List.append_nil] at hW'
  exact ⟨_, rfl, _, _, _, [], [], [], hW', (trodAll_cons_mk (shut_bool Try.underlying4 _) trodAll_mk0), (trodAll_cons_mk (shut_string Try.underlying9 m0) (trodAll_cons_mk (shut_int Try.underlying3 w1) (trodAll_cons_mk (shut_int Try.underlying3 w2) trodAll_mk0))), rfl, bel.frame _, fun h => by cases h⟩

theorem over : Rows.journalNewRow.holds Try.pinned (OpenSpec.ofChange Rows.journalNewSpec) :=
  OpenClaim.holds_of_wide 5 Try.f5 rfl rfl rfl rfl rfl rfl rfl ⟨rfl, rfl, rfl, rfl, rfl⟩ rfl rfl rfl rfl rfl (by kernel_rfl) Try.func5 (by kernel_rfl)
    (of_decide_eq_true (by kernel_rfl)) (by unfold Func.isWrapper; first | (rw [if_pos (by decide +kernel)]; kernel_rfl) | (rw [if_neg (by decide +kernel)]; exact ⟨rfl, rfl⟩))
    (fun os started H enc _ => lifted os started H enc)

end Go.Proofs.Ytpaefllhngbimaa.journalNew

namespace Go.Proofs.Ytpaefllhngbimaa
theorem journalNew_holds : Rows.JournalNewSaid := journalNew.over
#print axioms journalNew_holds
end Go.Proofs.Ytpaefllhngbimaa
