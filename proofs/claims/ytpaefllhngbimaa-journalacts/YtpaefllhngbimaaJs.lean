/-
  Package journal's replace, look, placed.
-/
import Derived.Test.YtpaefllhngbimaaJw
namespace Go.Proofs.Ytpaefllhngbimaa
open Go.RowKit
set_option linter.unusedVariables false
set_option maxRecDepth 100000

theorem assert93_some (v : Value) (w : World) : (Instr.typeAssert (.iface 93 v) 71 93 true).run Try.prog w = .ok (.tuple #[v, .bool true]) w := by kernel_rfl
theorem assert93_none (v : Value) (w : World) : (Instr.typeAssert (.iface 99 v) 71 93 true).run Try.prog w = .ok (.tuple #[.agg #[.int .i64 0], .bool false]) w := by kernel_rfl
theorem assert69_some (v : Value) (w : World) : (Instr.typeAssert (.iface 69 v) 71 69 true).run Try.prog w = .ok (.tuple #[v, .bool true]) w := by kernel_rfl
theorem assert69_none (v : Value) (w : World) : (Instr.typeAssert (.iface 99 v) 71 69 true).run Try.prog w = .ok (.tuple #[.agg #[.string ⟨#[]⟩], .bool false]) w := by kernel_rfl

theorem flOps_length (a c : Nat) : (flOps a c).length = (a + c + 7) / 8 - a / 8 := by simp [flOps]

theorem fillOps_length (a : Nat) (s : ByteArray) : (fillOps a s).length = 2 + nWords s + ((a + (2 + nWords s) + 7) / 8 - a / 8) := by
  simp [fillOps, fillSts, flOps_length]; omega

theorem replOps_length (X : List Int) (f n : Nat) (s : ByteArray) (hs : s.size ≤ 65536) : (replOps X f n s).length ≤ 20000 := by
  simp [replOps, fillOps_length, flOps_length]
  unfold nWords
  omega

/-- The rest of replace, once it is known which area is next. -/
theorem repl_ops {M : Pm} {f n : Nat} {s : ByteArray} (nx : Nat) (h : nextOf M.seen f n = nx) :
    ((((M.run (fillOps (areaOf f n nx) s)).fence.store f (sealW n nx)).run (flOps f 1)).fence) = M.run (replOps M.seen f n s) := by
  unfold replOps
  rw [h, run_append, run_append, run_append, run_append]
  rfl

set_option maxHeartbeats 4000000 in
theorem j_replace {S : List (Nat × Obj)} {w0 w : World} {b j : Nat} {M : Pm} (h : Hj S w0 w b M) {f n : Nat} (hj : (j, jn b f n) ∈ S) (hx : Fits M.seen f n) (s : ByteArray) (hs : s.size ≤ roomOf n)
    (hs0 : 0 ≤ M.steps) (hs1 : M.steps < 700000000) (ht0 : 0 ≤ M.stores) (ht1 : M.stores < 700000000) :
    Calls Try.prog 35 #[.pointer (some ⟨j, 0, none⟩), .string s] w fun e w' => e = .returned (.tuple #[]) ∧ Hj S w0 w' b (M.run (replOps M.seen f n s)) := by
  have hhi := hx.hi; have hlo := hx.lo; have htop := hx.top; have h8 := hx.len8
  have hroom := room_le (n := n)
  have hnx := head_next (X := M.seen) (f := f) (n := n)
  obtain ⟨r1, r2, r3, r4⟩ := area_fits hx hnx hs
  have hOps := repl_ops (M := M) (f := f) (n := n) (s := s) _ rfl
  obtain ⟨nx, hnxe⟩ : ∃ nx, nx = nextOf M.seen f n := ⟨_, rfl⟩
  rw [← hnxe] at hnx r1 r2 r3 r4 hOps
  have hjw := h.at hj
  have hhead := j_head h hjw hx
  have hbody : ∀ (W : World), Hj S w0 W b M → Calls Try.prog 51 #[.pointer (some ⟨j, 0, none⟩), .int .i64 ((areaOf f n nx : Nat) : Int), .string s] W fun e w' => e = .returned (.tuple #[]) ∧ Hj S w0 w' b (M.run (fillOps (areaOf f n nx) s)) :=
    fun W hW => j_fill hW hj (areaOf f n nx) s (by omega) (by omega) h8 htop hs0 (by omega) ht0 (by omega)
  have harea : ∀ W : World, Hj S w0 W b M → Calls Try.prog 52 #[.pointer (some ⟨j, 0, none⟩), .int .i64 (nx : Int)] W fun e w' => e = .returned (.int .i64 ((areaOf f n nx : Nat) : Int)) ∧ W = w' :=
    fun W hW => j_areaAt (hW.at hj) hlo (by omega) (by omega) nx hnx
  obtain ⟨N, hN⟩ : ∃ N, N = M.run (fillOps (areaOf f n nx) s) := ⟨_, rfl⟩
  have hfl := fillOps_length (areaOf f n nx) s
  have hNs : N.steps = M.steps + ((fillOps (areaOf f n nx) s).length : Int) := by rw [hN, run_steps]
  have hNt := run_stores (fillOps (areaOf f n nx) s) M
  have hNl : N.seen.length = M.seen.length := by rw [hN, run_seen, seenBy_length]
  rw [← hN] at hbody hNt hOps
  have hnw : nWords s ≤ 8192 := by unfold nWords; omega
  have hfen : ∀ W : World, Hj S w0 W b N → Calls Try.prog 13 #[.pointer (some ⟨b, 0, none⟩)] W fun e w' => e = .returned (.int .i64 0) ∧ Hj S w0 w' b N.fence :=
    fun W hW => h_fence hW (by omega) (by omega)
  have hsl : N.fence.seen.length = M.seen.length := by rw [fence_seen, hNl]
  have hst : N.fence.steps = N.steps + 1 := by rw [fence_steps]
  have hso : N.fence.stores = N.stores := by rw [fence_stores]
  have hsto : ∀ W : World, Hj S w0 W b N.fence → Calls Try.prog 11 #[.pointer (some ⟨b, 0, none⟩), .int .i64 (f : Int), .int .u64 (sealW n nx)] W fun e w' => e = .returned (.int .i64 0) ∧ Hj S w0 w' b (N.fence.store f (sealW n nx)) :=
    fun W hW => h_sto hW rfl rfl (by omega) (by omega) (by omega) (by omega) (by omega)
  have hseal : ∀ W : World, Hj S w0 W b N.fence → Calls Try.prog 53 #[.pointer (some ⟨j, 0, none⟩), .int .i64 (nx : Int)] W fun e w' => e = .returned (.int .u64 (sealW n nx)) ∧ W = w' :=
    fun W hW => j_seal (hW.at hj) (by omega) nx hnx
  obtain ⟨R, hR⟩ : ∃ R, R = N.fence.store f (sealW n nx) := ⟨_, rfl⟩
  have hRl : R.seen.length = M.seen.length := by rw [hR, store_seen, List.length_set, hsl]
  have hRs : R.steps = N.steps + 2 := by rw [hR, store_steps, hst]; omega
  rw [← hR] at hsto hOps
  have hfls : ∀ W : World, Hj S w0 W b R → Calls Try.prog 54 #[.pointer (some ⟨j, 0, none⟩), .int .i64 (f : Int), .int .i64 1] W fun e w' => e = .returned (.tuple #[]) ∧ Hj S w0 w' b (R.run (flOps f 1)) :=
    fun W hW => j_flush hW hj f 1 (by omega) (by omega) (by omega) (by omega) (by omega)
  have hTs : (R.run (flOps f 1)).steps = R.steps + ((flOps f 1).length : Int) := by rw [run_steps]
  have hflen := flOps_length f 1
  have hfen2 : ∀ W : World, Hj S w0 W b (R.run (flOps f 1)) → Calls Try.prog 13 #[.pointer (some ⟨b, 0, none⟩)] W fun e w' => e = .returned (.int .i64 0) ∧ Hj S w0 w' b (R.run (flOps f 1)).fence :=
    fun W hW => h_fence hW (by omega) (by omega)
  have HB : Hid (∀ (W : World), Hj S w0 W b M → Calls Try.prog 51 #[.pointer (some ⟨j, 0, none⟩), .int .i64 ((areaOf f n nx : Nat) : Int), .string s] W fun e w' => e = .returned (.tuple #[]) ∧ Hj S w0 w' b N) := hbody
  have HA : Hid (∀ W : World, Hj S w0 W b M → Calls Try.prog 52 #[.pointer (some ⟨j, 0, none⟩), .int .i64 (nx : Int)] W fun e w' => e = .returned (.int .i64 ((areaOf f n nx : Nat) : Int)) ∧ W = w') := harea
  have HF : Hid (∀ W : World, Hj S w0 W b N → Calls Try.prog 13 #[.pointer (some ⟨b, 0, none⟩)] W fun e w' => e = .returned (.int .i64 0) ∧ Hj S w0 w' b N.fence) := hfen
  have HS : Hid (∀ W : World, Hj S w0 W b N.fence → Calls Try.prog 11 #[.pointer (some ⟨b, 0, none⟩), .int .i64 (f : Int), .int .u64 (sealW n nx)] W fun e w' => e = .returned (.int .i64 0) ∧ Hj S w0 w' b R) := hsto
  have HE : Hid (∀ W : World, Hj S w0 W b N.fence → Calls Try.prog 53 #[.pointer (some ⟨j, 0, none⟩), .int .i64 (nx : Int)] W fun e w' => e = .returned (.int .u64 (sealW n nx)) ∧ W = w') := hseal
  have HL : Hid (∀ W : World, Hj S w0 W b R → Calls Try.prog 54 #[.pointer (some ⟨j, 0, none⟩), .int .i64 (f : Int), .int .i64 1] W fun e w' => e = .returned (.tuple #[]) ∧ Hj S w0 w' b (R.run (flOps f 1))) := hfls
  have HF2 : Hid (∀ W : World, Hj S w0 W b (R.run (flOps f 1)) → Calls Try.prog 13 #[.pointer (some ⟨b, 0, none⟩)] W fun e w' => e = .returned (.int .i64 0) ∧ Hj S w0 w' b (R.run (flOps f 1)).fence) := hfen2
  have HO : Hid (_ = _) := hOps
  have HH : Hid (Calls Try.prog 50 #[.pointer (some ⟨j, 0, none⟩)] w fun e w' => e = .returned (headV (headOf M.seen f n)) ∧ w = w') := hhead
  have HX : Hid (Hj S w0 w b M) := h
  clear hbody harea hfen hsto hseal hfls hfen2 hOps hhead h hTs hflen hRl hRs hsl hst hso hNl hNt hNs hfl hnw r1 r2 r3 r4 hroom hhi hlo htop h8 hN hR hjw hs hs0 hs1 ht0 ht1
  have cell : ∀ {W : World} {N : Pm}, Hj S w0 W b N → W.cell? ⟨j, 0, none⟩ = some (.pointer (some ⟨b, 0, none⟩)) ∧ W.cell? ⟨j, 1, none⟩ = some (.int .i64 (f : Int)) := fun hW => ⟨(jn_cells (hW.at hj)).1, (jn_cells (hW.at hj)).2.1⟩
  have HC : Hid (∀ {W : World} {N : Pm}, Hj S w0 W b N → W.cell? ⟨j, 0, none⟩ = some (.pointer (some ⟨b, 0, none⟩)) ∧ W.cell? ⟨j, 1, none⟩ = some (.int .i64 (f : Int))) := @cell
  clear cell
  have a1 := assert93_some
  have a2 := assert93_none
  go_enter Try.func35, Try.ntmps35
  cases hh : headOf M.seen f n with
  | none =>
    have hn0 : nx = 0 := by rw [hnxe]; unfold nextOf; rw [hh]
    have hd := HH.out
    rw [hh] at hd
    have HD : Hid (Calls Try.prog 50 #[.pointer (some ⟨j, 0, none⟩)] w fun e w' => e = .returned (.iface 99 (.agg #[])) ∧ w = w') := hd
    clear hd HH hh hnxe
    subst hn0
    have HA0 : Hid (∀ W : World, Hj S w0 W b M → Calls Try.prog 52 #[.pointer (some ⟨j, 0, none⟩), .int .i64 0] W fun e w' => e = .returned (.int .i64 ((areaOf f n 0 : Nat) : Int)) ∧ W = w') := HA.out
    have HE0 : Hid (∀ W : World, Hj S w0 W b N.fence → Calls Try.prog 53 #[.pointer (some ⟨j, 0, none⟩), .int .i64 0] W fun e w' => e = .returned (.int .u64 (sealW n 0)) ∧ W = w') := HE.out
    go_wp2_with (first
      | (go_at_call 50; refine Calls.mono HD.out ?_; rintro e w' ⟨rfl, rfl⟩)
      | (go_at_call 52; refine Calls.mono (HA0.out _ (HX.out.still ((Kept.refl _ _).alloc _))) ?_; rintro e w2 ⟨rfl, hw⟩; have hw3 := hw.symm; subst hw3; clear hw)
      | (go_at_call 51; refine Calls.mono (HB.out _ (HX.out.still ((Kept.refl _ _).alloc _))) ?_; rintro e w3 ⟨rfl, h3⟩; have H3 : Hid (Hj S w0 w3 b N) := h3; obtain ⟨c0, c1⟩ := HC.out h3; clear h3)
      | (go_at_call 13; refine Calls.mono (HF.out _ H3.out) ?_; rintro e w4 ⟨rfl, h4⟩; have H4 : Hid (Hj S w0 w4 b N.fence) := h4; obtain ⟨d0, d1⟩ := HC.out h4; clear h4))
    clear c0 c1 H3 HX HB HA HF HD
    have hKd : Kept [] w4 w4.drew := (Kept.refl _ _).drew
    go_region_held3 (fun w' => w'.cell? ⟨j, 0, none⟩ = some (.pointer (some ⟨b, 0, none⟩)) ∧ w'.cell? ⟨j, 1, none⟩ = some (.int .i64 (f : Int))) (first | exact z | go_keep)
      (first
        | (go_at_call 53; refine Calls.mono (HE0.out _ (H4.out.still (by assumption))) ?_; rintro e w5 ⟨rfl, hw⟩; have hw5 := hw.symm; subst hw5; clear hw)
        | (go_at_call 11; refine Calls.mono (HS.out _ (H4.out.still (by assumption))) ?_; rintro e w5 ⟨rfl, h5⟩; have z := HC.out h5; have H5 : Hid (Hj S w0 w5 b R) := h5; clear h5))
    obtain ⟨z0, z1⟩ := z
    clear d0 d1 hKd H4 HS HE
    go_wp2_with (first
      | (go_at_call 54; refine Calls.mono (HL.out _ H5.out) ?_; rintro e w6 ⟨rfl, h6⟩; have H6 : Hid (Hj S w0 w6 b (R.run (flOps f 1))) := h6; obtain ⟨e0, e1⟩ := HC.out h6; clear h6)
      | (go_at_call 13; refine Calls.mono (HF2.out _ H6.out) ?_; rintro e w7 ⟨rfl, h7⟩; rw [HO.out] at h7; have H7 : Hid (Hj S w0 w7 b _) := h7; clear h7))
    go_end0
    exact ⟨rfl, H7.out⟩
  | some q =>
    have hn1 : nx = (q + 1) % 2 := by rw [hnxe]; unfold nextOf; rw [hh]
    have hq2 := head_lt hh
    have hqn : ((q : Int) + 1) % 2 = (nx : Int) := by omega
    have hd := HH.out
    rw [hh] at hd
    have HD : Hid (Calls Try.prog 50 #[.pointer (some ⟨j, 0, none⟩)] w fun e w' => e = .returned (.iface 93 (.agg #[.int .i64 (q : Int)])) ∧ w = w') := hd
    clear hd HH hh hnxe hn1
    go_wp2_with (first
      | (go_at_call 50; refine Calls.mono HD.out ?_; rintro e w' ⟨rfl, rfl⟩)
      | (go_at_call 52; refine Calls.mono (HA.out _ (HX.out.still ((Kept.refl _ _).alloc _))) ?_; rintro e w2 ⟨rfl, hw⟩; have hw3 := hw.symm; subst hw3; clear hw)
      | (go_at_call 51; refine Calls.mono (HB.out _ (HX.out.still ((Kept.refl _ _).alloc _))) ?_; rintro e w3 ⟨rfl, h3⟩; have H3 : Hid (Hj S w0 w3 b N) := h3; obtain ⟨c0, c1⟩ := HC.out h3; clear h3)
      | (go_at_call 13; refine Calls.mono (HF.out _ H3.out) ?_; rintro e w4 ⟨rfl, h4⟩; have H4 : Hid (Hj S w0 w4 b N.fence) := h4; obtain ⟨d0, d1⟩ := HC.out h4; clear h4))
    clear c0 c1 H3 HX HB HA HF HD
    have hKd : Kept [] w4 w4.drew := (Kept.refl _ _).drew
    go_region_held3 (fun w' => w'.cell? ⟨j, 0, none⟩ = some (.pointer (some ⟨b, 0, none⟩)) ∧ w'.cell? ⟨j, 1, none⟩ = some (.int .i64 (f : Int))) (first | exact z | go_keep)
      (first
        | (go_at_call 53; refine Calls.mono (HE.out _ (H4.out.still (by assumption))) ?_; rintro e w5 ⟨rfl, hw⟩; have hw5 := hw.symm; subst hw5; clear hw)
        | (go_at_call 11; refine Calls.mono (HS.out _ (H4.out.still (by assumption))) ?_; rintro e w5 ⟨rfl, h5⟩; have z := HC.out h5; have H5 : Hid (Hj S w0 w5 b R) := h5; clear h5))
    obtain ⟨z0, z1⟩ := z
    clear d0 d1 hKd H4 HS HE
    go_wp2_with (first
      | (go_at_call 54; refine Calls.mono (HL.out _ H5.out) ?_; rintro e w6 ⟨rfl, h6⟩; have H6 : Hid (Hj S w0 w6 b (R.run (flOps f 1))) := h6; obtain ⟨e0, e1⟩ := HC.out h6; clear h6)
      | (go_at_call 13; refine Calls.mono (HF2.out _ H6.out) ?_; rintro e w7 ⟨rfl, h7⟩; rw [HO.out] at h7; have H7 : Hid (Hj S w0 w7 b _) := h7; clear h7))
    go_end0
    exact ⟨rfl, H7.out⟩

end Go.Proofs.Ytpaefllhngbimaa
