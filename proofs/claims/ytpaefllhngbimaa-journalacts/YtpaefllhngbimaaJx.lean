/-
  JournalActs's acts, played.
-/
import Derived.Test.YtpaefllhngbimaaJl
import Derived.Deep.RegionHeld3
import Derived.Deep.CutRange
import Derived.Deep.CutBlock
namespace Go.Proofs.Ytpaefllhngbimaa
open Go.RowKit
set_option linter.unusedVariables false
set_option maxRecDepth 100000

set_option maxHeartbeats 8000000 in
theorem j_played {w0 w : World} {b j n : Nat} {M0 : Pm} (h : Hj [(j, jn b 8 n)] w0 w b M0) (hp : Pi M0 n ⟨#[]⟩ false 40000) (h64 : 64 ≤ n) (hn : n ≤ 312) {a0 : Option Addr} {len0 : Nat} (cap0 : Nat) (ha : IsActs w0 a0 len0) :
    Calls Try.prog 15 #[.pointer (some ⟨b, 0, none⟩), .pointer (some ⟨j, 0, none⟩), .int .i64 (n : Int), .slice a0 len0 cap0] w fun e w' => e = .returned (.bool true) ∧ ∃ M', Hj [] w0 w' b M' ∧ M'.seen.length = n + 32 ∧ wordAt M'.seen 3 = 77 ∧ wordAt M'.seen (n + 9) = 78 := by
  have hroom : Hid (roomOf n = 2 * n - 64) := room_of (by omega) h64
  have H0 : Hid (_ ∧ _) := ⟨h, hp⟩
  obtain ⟨hlen, A, hA⟩ := ha
  have HA : Hid (∀ i, i < len0 → ∃ B off, a0 = some ⟨B, off, none⟩ ∧ (A i).small ∧ ∀ j u, (A i).cs[j]? = some u → w0.cell? ⟨B, off + (i * 4 + j), none⟩ = some u) := hA
  clear h hp hA
  go_enter Try.func15, Try.ntmps15
  go_wp2_with fail
  go_loopw [1, 9, 10, 11, 12] (fun jv nw nx bu i wr => ∃ (i' jj : Nat) (M : Pm) (T : ByteArray) (u : Bool), jv = .pointer (some ⟨jj, 0, none⟩) ∧ nw = .string T ∧ nx = .string T ∧ bu = .bool u ∧ i = .int .i64 (i' : Int) ∧ i' ≤ 60 ∧ Hid (Hj [(jj, jn b 8 n)] w0 wr b M ∧ Pi M n T u (20000 * (i' : Int) + 40000))) (fun _ _ _ _ i _ => (60 - intOf i).toNat)
  case atStart => exact ⟨0, j, M0, ⟨#[]⟩, false, rfl, rfl, rfl, rfl, rfl, by omega, H0.out.1, H0.out.2.more (by omega)⟩
  case round =>
    clear H0
    obtain ⟨i, jj, M, T, u, rfl, rfl, rfl, rfl, rfl, hi, HR⟩ := hrel
    by_cases hlt : i < len0 ∧ i < 60
    · obtain ⟨hlt, hlt2⟩ := hlt
      have i1 : (0 : Int) ≤ (i : Int) := by omega
      have i2 : (i : Int) < (len0 : Int) := by omega
      have i3 : (i : Int) < 60 := by omega
      obtain ⟨B, off, rfl, hsm, hc⟩ := HA.out i hlt
      generalize A i = c at hsm hc
      have x0 : wr.cell? ⟨B, off + i * 4, none⟩ = some (.int .i64 c.kd) := by have := HR.out.1.1.cell (hc 0 _ rfl) (by simp); simpa using this
      have x1 : wr.cell? ⟨B, off + i * 4 + 1, none⟩ = some (.string c.s) := by have := HR.out.1.1.cell (hc 1 _ rfl) (by simp); rwa [← Nat.add_assoc] at this
      have x2 : wr.cell? ⟨B, off + i * 4 + 2, none⟩ = some (.int .i64 c.fu) := by have := HR.out.1.1.cell (hc 2 _ rfl) (by simp); rwa [← Nat.add_assoc] at this
      have x3 : wr.cell? ⟨B, off + i * 4 + 3, none⟩ = some (.int .i64 c.kp) := by have := HR.out.1.1.cell (hc 3 _ rfl) (by simp); rwa [← Nat.add_assoc] at this
      have HX : Hid (Hj ((wr.heap.size, xo c) :: [(jj, jn b 8 n)]) w0 (wr.alloc (xo c)) b M) := HR.out.1.make (xo c)
      have HP : Hid (Pi M n T u (20000 * (i : Int) + 40000)) := HR.out.2
      have HS : Hid (c.small) := hsm
      obtain ⟨kd, s, fu, kp⟩ := c
      have hkp : Hid (kp ≤ 9223372036854775807) := hsm.2
      have hss : Hid (s.size ≤ 140737488351232) := hsm.1
      simp only at x0 x1 x2 x3
      obtain ⟨X, hX⟩ : ∃ X, wr.heap.size = X := ⟨_, rfl⟩
      rw [hX] at HX
      have HXX : Hid (_) := hX
      obtain ⟨W0, h0⟩ : ∃ W0, W0 = wr.alloc (xo ⟨kd, s, fu, kp⟩) := ⟨_, rfl⟩
      rw [← h0] at HX
      have hW0 : Hid (wr.alloc (.cells #[.int .i64 kd, .string s, .int .i64 fu, .int .i64 kp] 62 (0, 0)) = W0) := h0.symm
      clear h0 hX hc hsm HR HS
      go_upto_region 14 with fail
      rw [hW0.out, HXX.out]
      clear hW0 HXX x0 x1 x2 x3
      by_cases hk5 : kd < 5
      · by_cases hbig : 2 * (n : Int) - 64 < (s.size : Int)
        · as_aux_lemma =>
            have HF : Hid (∀ W, Hj [(X, xo ⟨kd, s, fu, kp⟩), (jj, jn b 8 n)] w0 W b M → Calls Try.prog 20 #[.pointer (some ⟨jj, 0, none⟩), .string s] W fun e w' => e = .returned (.int .i64 2101) ∧ w' = W) := fun W hW => j_write_full hW (by simp) HP.out.q.fits s (by rw [hroom.out]; omega)
            obtain ⟨z0, z1, z2, z3⟩ := HX.out.x (X := X) (c := ⟨kd, s, fu, kp⟩) (by simp)
            simp only at z0 z1
            clear z2 z3
            go_wp2_with (first
              | (go_at_call 20; refine Calls.mono (HF.out _ HX.out) ?_; rintro e w4 ⟨rfl, hw⟩; have hw3 := hw; subst hw3; clear hw)
              | (go_at_call 10; refine (u_num _ _).mono ?_; rintro e w' ⟨rfl, rfl⟩)
              | (go_at_call 22; refine (j_read HX.out (j := jj) (f := 8) (by simp) HP.out.q.fits HP.out.q.rng HP.out.q.look).mono ?_; rintro e w5 ⟨rfl, h5⟩; have H5 : Hid (Hj [(X, xo ⟨kd, s, fu, kp⟩), (jj, jn b 8 n)] w0 w5 b M) := HX.out.still h5; clear h5))
            go_roundw
            case rel => exact ⟨i + 1, jj, M, T, u, rfl, rfl, rfl, rfl, by go_num, by omega, H5.out.sub (by simp), HP.out.more (by omega)⟩
            case measure => simp [intOf]; omega
        · as_aux_lemma =>
            have hs : s.size ≤ roomOf n := by rw [hroom.out]; omega
            have hwn := HP.out.wn hs
            have hwr : ∀ W, Hj [(X, xo ⟨kd, s, fu, kp⟩), (jj, jn b 8 n)] w0 W b M → Calls Try.prog 20 #[.pointer (some ⟨jj, 0, none⟩), .string s] W fun e w' => e = .returned (.int .i64 0) ∧ Hj [(X, xo ⟨kd, s, fu, kp⟩), (jj, jn b 8 n)] w0 w' b (M.run (replOps M.seen 8 n s)) := fun W hW => j_write hW (by simp) HP.out.q.fits s hs HP.out.cnt.s0 (by have := HP.out.cnt.s1; omega) HP.out.cnt.t0 (by have := HP.out.cnt.t1; omega)
            obtain ⟨M1, hM1⟩ : ∃ M1, M1 = M.run (replOps M.seen 8 n s) := ⟨_, rfl⟩
            rw [← hM1] at hwn hwr
            have HM1 : Hid (_) := hM1
            have HN : Hid (Wn M1 n s) := hwn
            have HW : Hid (_) := hwr
            have HSZ : Hid (_) := hs
            obtain ⟨z0, z1, z2, z3⟩ := HX.out.x (X := X) (c := ⟨kd, s, fu, kp⟩) (by simp)
            simp only at z0 z1
            clear z2 z3 hM1 hwn hwr hs
            go_wp2_with (go_at_call 20; refine Calls.mono (HW.out _ HX.out) ?_; rintro e w3 ⟨rfl, h3⟩; have H3 : Hid (Hj [(X, xo ⟨kd, s, fu, kp⟩), (jj, jn b 8 n)] w0 w3 b M1) := h3; obtain ⟨y0, y1, y2, y3⟩ := h3.x (X := X) (c := ⟨kd, s, fu, kp⟩) (by simp); simp only at y1; clear y0 y2 y3 h3)
            have HB : Hid (Hj [(X, xo ⟨kd, s, fu, kp⟩), (jj, jn b 8 n)] w0 w3.drew b M1) := H3.out.still (Kept.refl [] w3).drew
            have z : w3.drew.cell? ⟨X, 1, none⟩ = some (.string s) := (HB.out.x (X := X) (c := ⟨kd, s, fu, kp⟩) (by simp)).2.1
            clear HX z0 z1 y1
            go_region_held3 (fun w' => w'.cell? ⟨X, 1, none⟩ = some (.string s)) (first | exact z5 | exact z | go_keep)
              (first
                | (go_at_call 10; refine (u_num _ _).mono ?_; rintro e w' ⟨rfl, rfl⟩)
                | (go_at_call 22; refine (j_read HB.out (j := jj) (f := 8) (by simp) HN.out.fits HN.out.rng HN.out.look).mono ?_; rintro e w5 ⟨rfl, h5⟩; have H5 : Hid (Hj [(X, xo ⟨kd, s, fu, kp⟩), (jj, jn b 8 n)] w0 w5 b M1) := HB.out.still h5; have z5 : w5.cell? ⟨X, 1, none⟩ = some (.string s) := (H5.out.x (X := X) (c := ⟨kd, s, fu, kp⟩) (by simp)).2.1; clear h5))
            clear z z5 HB
            have HL : Hid (Hj [(X, xo ⟨kd, s, fu, kp⟩), (jj, jn b 8 n)] w0 w5 b M1) := H5.out
            clear H5 H3 HW
            cases u with
            | false =>
              have hp1 := HP.out.write HSZ.out
              rw [← HM1.out] at hp1
              have HP1 : Hid (Pi M1 n s false (20000 * (i : Int) + 40000 + 20000)) := hp1
              obtain ⟨z0, z1, z2, z3⟩ := HL.out.x (X := X) (c := ⟨kd, s, fu, kp⟩) (by simp)
              simp only at z0 z1 z2 z3
              clear hp1
              go_wp2_with fail
              go_roundw
              case rel => exact ⟨i + 1, jj, M1, s, false, rfl, rfl, rfl, rfl, by go_num, by omega, HL.out.sub (by simp), HP1.out.more (by omega)⟩
              case measure => simp [intOf]; omega
            | true =>
              have hcut : ∀ W, Hj [(X, xo ⟨kd, s, fu, kp⟩), (jj, jn b 8 n)] w0 W b M1 → Calls Try.prog 36 #[.pointer (some ⟨b, 0, none⟩), .int .i64 (n : Int), .string s, .string T] W fun e w' => e = .returned (.bool true) ∧ Kept [] W w' := by
                intro W hW
                have hc := HP.out.cut HSZ.out (-1)
                rw [← HM1.out] at hc
                by_cases e : T = s
                · rcases hc with hc | hc
                  · exact a_cut hW hc.q (Or.inl e)
                  · exact a_cut hW hc.q (Or.inl rfl)
                · rcases hc with hc | hc
                  · exact a_cut hW hc.q (Or.inr ⟨rfl, e⟩)
                  · exact a_cut hW hc.q (Or.inl rfl)
              have hc := HP.out.cut HSZ.out kp
              rw [← HM1.out] at hc
              obtain ⟨T2, hc, hT2⟩ : ∃ T2, Pi (M1.crash kp) n T2 false (20000 * (i : Int) + 40000 + 20000) ∧ (T2 = T ∨ (T2 = s ∧ s ≠ T)) := by
                rcases hc with hc | hc
                · exact ⟨T, hc, Or.inl rfl⟩
                · by_cases e : s = T
                  · exact ⟨s, hc, Or.inl e⟩
                  · exact ⟨s, hc, Or.inr ⟨rfl, e⟩⟩
              obtain ⟨M2, hM2⟩ : ∃ M2, M2 = M1.crash kp := ⟨_, rfl⟩
              have hre : ∀ W, Hj [(X, xo ⟨kd, s, fu, kp⟩), (jj, jn b 8 n)] w0 W b M1 → Calls Try.prog 37 #[.pointer (some ⟨b, 0, none⟩), .int .i64 (n : Int), .int .i64 kp] W fun e w' => ∃ k, e = .returned (.tuple #[.pointer (some ⟨k, 0, none⟩), .bool true]) ∧ Hj ((k, jn b 8 n) :: [(X, xo ⟨kd, s, fu, kp⟩), (jj, jn b 8 n)]) w0 w' b M2 := by
                intro W hW
                rw [hM2]
                exact a_reopen hW kp hkp.out hc.q
              rw [← hM2] at hc
              have HC : Hid (Pi M2 n T2 false (20000 * (i : Int) + 40000 + 20000)) := hc
              have HCUT : Hid (_) := hcut
              have HRE : Hid (_) := hre
              have HT2 : Hid (T2 = T ∨ (T2 = s ∧ s ≠ T)) := hT2
              obtain ⟨z0, z1, z2, z3⟩ := HL.out.x (X := X) (c := ⟨kd, s, fu, kp⟩) (by simp)
              simp only at z0 z1 z2 z3
              clear hc hcut hre hM2 hT2 HP HN HM1 HSZ
              go_wp2_with (first
                | (go_at_call 36; refine Calls.mono (HCUT.out _ HL.out) ?_; rintro e w6 ⟨rfl, h6⟩; have H6 : Hid (Hj [(X, xo ⟨kd, s, fu, kp⟩), (jj, jn b 8 n)] w0 w6 b M1) := HL.out.still h6; obtain ⟨y0, y1, y2, y3⟩ := H6.out.x (X := X) (c := ⟨kd, s, fu, kp⟩) (by simp); simp only at y1 y3; clear h6 y0 y2)
                | (go_at_call 37; refine Calls.mono (HRE.out _ H6.out) ?_; rintro e w7 ⟨k, rfl, h7⟩; have H7 : Hid (Hj ((k, jn b 8 n) :: [(X, xo ⟨kd, s, fu, kp⟩), (jj, jn b 8 n)]) w0 w7 b M2) := h7; clear h7))
              clear HL H6 HRE HCUT z0 z1 z2 z3 y1 y3
              rcases HT2.out with rfl | ⟨rfl, hne⟩
              · have tk1 : True := trivial
                have tk2 : True := trivial
                go_wp2_with (first
                  | (go_at_call 22; clear tk1; refine (j_read H7.out (j := k) (f := 8) (by simp) HC.out.q.fits HC.out.q.rng HC.out.q.look).mono ?_; rintro e w8 ⟨rfl, h8⟩; have H8 : Hid (Hj ((k, jn b 8 n) :: [(X, xo ⟨kd, s, fu, kp⟩), (jj, jn b 8 n)]) w0 w8 b M2) := H7.out.still h8; clear h8 H7)
                  | (go_at_call 22; clear tk2; refine (j_read H8.out (j := k) (f := 8) (by simp) HC.out.q.fits HC.out.q.rng HC.out.q.look).mono ?_; rintro e w9 ⟨rfl, h9⟩; have H9 : Hid (Hj ((k, jn b 8 n) :: [(X, xo ⟨kd, s, fu, kp⟩), (jj, jn b 8 n)]) w0 w9 b M2) := H8.out.still h9; clear h9 H8))
                go_roundw
                case rel => exact ⟨i + 1, k, M2, T2, false, rfl, rfl, rfl, rfl, by go_num, by omega, H9.out.sub (by simp), HC.out.more (by omega)⟩
                case measure => simp [intOf]; omega
              · have hb : (T2.toList == T.toList) = false := str_ne hne
                have tk1 : True := trivial
                have tk2 : True := trivial
                have tk3 : True := trivial
                clear hne
                go_wp2_with (first
                  | (go_at_call 22; clear tk1; refine (j_read H7.out (j := k) (f := 8) (by simp) HC.out.q.fits HC.out.q.rng HC.out.q.look).mono ?_; rintro e w8 ⟨rfl, h8⟩; have H8 : Hid (Hj ((k, jn b 8 n) :: [(X, xo ⟨kd, T2, fu, kp⟩), (jj, jn b 8 n)]) w0 w8 b M2) := H7.out.still h8; clear h8 H7)
                  | (go_at_call 22; clear tk2; refine (j_read H8.out (j := k) (f := 8) (by simp) HC.out.q.fits HC.out.q.rng HC.out.q.look).mono ?_; rintro e w9 ⟨rfl, h9⟩; have H9 : Hid (Hj ((k, jn b 8 n) :: [(X, xo ⟨kd, T2, fu, kp⟩), (jj, jn b 8 n)]) w0 w9 b M2) := H8.out.still h9; clear h9 H8)
                  | (go_at_call 22; clear tk3; refine (j_read H9.out (j := k) (f := 8) (by simp) HC.out.q.fits HC.out.q.rng HC.out.q.look).mono ?_; rintro e wa ⟨rfl, ha⟩; have HAA : Hid (Hj ((k, jn b 8 n) :: [(X, xo ⟨kd, T2, fu, kp⟩), (jj, jn b 8 n)]) w0 wa b M2) := H9.out.still ha; clear ha H9))
                go_roundw
                case rel => exact ⟨i + 1, k, M2, T2, false, rfl, rfl, rfl, rfl, by go_num, by omega, HAA.out.sub (by simp), HC.out.more (by omega)⟩
                case measure => simp [intOf]; omega
      · by_cases hk7 : kd < 7
        · as_aux_lemma =>
            obtain ⟨kk, hkk, hkk2⟩ : ∃ k : Nat, bits .and .i64 fu 63 = (k : Int) ∧ k < 64 := ⟨(fu % 64).toNat, by rw [i64_and63]; omega, by omega⟩
            have hf := HP.out.fuse (kk : Int) (by omega)
            have HF : Hid (Pi (M.setFuse (kk : Int)) n T true (20000 * (i : Int) + 40000)) := hf
            obtain ⟨z0, z1, z2, z3⟩ := HX.out.x (X := X) (c := ⟨kd, s, fu, kp⟩) (by simp)
            simp only at z0 z1 z2 z3
            clear hf
            go_wp2_with (go_at_call 24; refine (h_fuse HX.out (kk : Int) (by omega) (by omega)).mono ?_; rintro e w4 ⟨rfl, h4⟩; have H4 : Hid (Hj [(X, xo ⟨kd, s, fu, kp⟩), (jj, jn b 8 n)] w0 w4 b (M.setFuse (kk : Int))) := h4; clear h4)
            go_roundw
            case rel => exact ⟨i + 1, jj, M.setFuse (kk : Int), T, true, rfl, rfl, rfl, rfl, by go_num, by omega, H4.out.sub (by simp), HF.out.more (by omega)⟩
            case measure => simp [intOf]; omega
        · as_aux_lemma =>
            have hc := HP.out.crash kp
            have hre := fun W (hW : Hj [(X, xo ⟨kd, s, fu, kp⟩), (jj, jn b 8 n)] w0 W b M) => a_reopen (w := W) hW kp hkp.out hc.q
            obtain ⟨M2, hM2⟩ : ∃ M2, M2 = M.crash kp := ⟨_, rfl⟩
            rw [← hM2] at hc hre
            have HC : Hid (Pi M2 n T false (20000 * (i : Int) + 40000)) := hc
            have HRE : Hid (∀ W, Hj [(X, xo ⟨kd, s, fu, kp⟩), (jj, jn b 8 n)] w0 W b M → Calls Try.prog 37 #[.pointer (some ⟨b, 0, none⟩), .int .i64 (n : Int), .int .i64 kp] W fun e w' => ∃ k, e = .returned (.tuple #[.pointer (some ⟨k, 0, none⟩), .bool true]) ∧ Hj ((k, jn b 8 n) :: [(X, xo ⟨kd, s, fu, kp⟩), (jj, jn b 8 n)]) w0 w' b M2) := hre
            obtain ⟨z0, z1, z2, z3⟩ := HX.out.x (X := X) (c := ⟨kd, s, fu, kp⟩) (by simp)
            simp only at z0 z1 z2 z3
            have tk1 : True := trivial
            have tk2 : True := trivial
            clear hc hre hM2 HP
            go_wp2_with (first
              | (go_at_call 37; refine Calls.mono (HRE.out _ HX.out) ?_; rintro e w7 ⟨k, rfl, h7⟩; have H7 : Hid (Hj ((k, jn b 8 n) :: [(X, xo ⟨kd, s, fu, kp⟩), (jj, jn b 8 n)]) w0 w7 b M2) := h7; clear h7 HX)
              | (go_at_call 22; clear tk1; refine (j_read H7.out (j := k) (f := 8) (by simp) HC.out.q.fits HC.out.q.rng HC.out.q.look).mono ?_; rintro e w8 ⟨rfl, h8⟩; have H8 : Hid (Hj ((k, jn b 8 n) :: [(X, xo ⟨kd, s, fu, kp⟩), (jj, jn b 8 n)]) w0 w8 b M2) := H7.out.still h8; clear h8 H7)
              | (go_at_call 22; clear tk2; refine (j_read H8.out (j := k) (f := 8) (by simp) HC.out.q.fits HC.out.q.rng HC.out.q.look).mono ?_; rintro e w9 ⟨rfl, h9⟩; have H9 : Hid (Hj ((k, jn b 8 n) :: [(X, xo ⟨kd, s, fu, kp⟩), (jj, jn b 8 n)]) w0 w9 b M2) := H8.out.still h9; clear h9 H8))
            go_roundw
            case rel => exact ⟨i + 1, k, M2, T, false, rfl, rfl, rfl, rfl, by go_num, by omega, H9.out.sub (by simp), HC.out.more (by omega)⟩
            case measure => simp [intOf]; omega
    · have HE : Hid (∃ M', Hj [] w0 wr b M' ∧ M'.seen.length = n + 32 ∧ wordAt M'.seen 3 = 77 ∧ wordAt M'.seen (n + 9) = 78) := ⟨M, HR.out.1.sub (by simp), HR.out.2.len, HR.out.2.a, HR.out.2.b⟩
      clear HR HA
      by_cases hx : i < len0
      · have i2 : (i : Int) < (len0 : Int) := by omega
        have i3 : ¬ (i : Int) < 60 := by omega
        go_wp2_with fail
        go_ret
        exact ⟨rfl, HE.out⟩
      · have i2 : ¬ (i : Int) < (len0 : Int) := by omega
        go_wp2_with fail
        go_ret
        exact ⟨rfl, HE.out⟩

end Go.Proofs.Ytpaefllhngbimaa
