/-
  Joined of my texts Fu.
-/
import Derived.Test.YtffncojcnbhblaaGreatDoorJd14
import Derived.Test.YtffncojcnbhblaaGreatDoorTk
set_option linter.unusedVariables false
set_option linter.unusedSimpArgs false
set_option maxRecDepth 100000
set_option maxHeartbeats 8000000
namespace Go.Proofs.YtffncojcnbhblaaGreatDoor
open Go.RowKit
def inQ (d : Int) (t : ByteArray) (ld : Int) (lt : ByteArray) (e : En) : Bool := bkt e.1 == bkt t && !(ld == d && lt.toList == e.1.toList)
def nFull (E : List En) (d : Int) (t : ByteArray) (ld : Int) (lt : ByteArray) : Nat := E.countP (inQ d t ld lt)
theorem nFull_take {E : List En} {d ld : Int} {t lt : ByteArray} {n : Nat} (h : n < E.length) : nFull (E.take (n + 1)) d t ld lt = nFull (E.take n) d t ld lt + if inQ d t ld lt E[n] then 1 else 0 := by
 unfold nFull
 rw [List.take_succ_eq_append_getElem h, List.countP_append]
 congr 1
 by_cases e : inQ d t ld lt E[n] = true <;> simp [e]
theorem neq_spot (a x : Int) (b y : ByteArray) (w : World) : (binOp .neq 147 (.agg #[.int .i64 a, .string b]) (.agg #[.int .i64 x, .string y])).run Tryz.prog w = .ok (.bool (!(a == x && b.toList == y.toList))) w := by
 have u3 := Tryz.underlying3
 have a3 := Tryz.isAgg3
 have z3 := Tryz.sizeOf3
 have u9 := Tryz.underlying9
 have a9 := Tryz.isAgg9
 have z9 := Tryz.sizeOf9
 have hS : Tryz.prog.underlying 147 = some (.struct (Tryz.prog.fieldsOf 147)) := by kernel_rfl
 have hp : Tryz.prog.stoodInHeld 147 = false := by kernel_rfl
 rw [run_neq_struct, show (10000 : Nat) = 9999 + 1 from rfl, run_equalIn_agg w 9999 147 _ _ hS hp]
 simp only [Program.fieldsOf, Tryz.underlying147]
 go_simp
 by_cases h1 : a = x <;> by_cases h2 : b.toList = y.toList <;> simp [h1, h2]
theorem s5_kept {Wz w w' : World} {R Q Z : Nat} {d ld : Int} {t lt te : ByteArray} (h : Kept [] Wz w ∧ w.cell? ⟨R, 0, none⟩ = some (.int .i64 d) ∧ w.cell? ⟨R, 1, none⟩ = some (.string t) ∧ w.cell? ⟨Q, 0, none⟩ = some (.int .i64 ld) ∧ w.cell? ⟨Q, 1, none⟩ = some (.string lt) ∧ w.cell? ⟨Z, 0, none⟩ = some (.string te)) (k : Kept [] w w') : Kept [] Wz w' ∧ w'.cell? ⟨R, 0, none⟩ = some (.int .i64 d) ∧ w'.cell? ⟨R, 1, none⟩ = some (.string t) ∧ w'.cell? ⟨Q, 0, none⟩ = some (.int .i64 ld) ∧ w'.cell? ⟨Q, 1, none⟩ = some (.string lt) ∧ w'.cell? ⟨Z, 0, none⟩ = some (.string te) :=
 ⟨h.1.trans k (by simp), k.cell h.2.1 (by simp), k.cell h.2.2.1 (by simp), k.cell h.2.2.2.1 (by simp), k.cell h.2.2.2.2.1 (by simp), k.cell h.2.2.2.2.2 (by simp)⟩
theorem p_full {w : World} {B : Nat} {c : Cal} {pk : Value} {p : Pl} {S : Sta} (h : Rd w B c pk p S) (d : Int) (t : ByteArray) (ld : Int) (lt : ByteArray) {k : Nat} (hat : atR S.ino d = some k) (hk : k < S.ino.length) :
  Calls Tryz.prog 130 #[.pointer (some ⟨B, 0, none⟩), .agg #[.int .i64 d, .string t], .agg #[.int .i64 ld, .string lt]] w fun e w' => e = .returned (.bool (decide (4 ≤ nFull (S.ino[k]).ents d t ld lt))) ∧ Kept [] w w' := by
 obtain ⟨W1, R, HWR, HKR, r0, r1⟩ := box2 w (.int .i64 d) (.string t) 147
 obtain ⟨W2, Q, HWQ, HKQ, l0, l1⟩ := box2 W1 (.int .i64 ld) (.string lt) 147
 have HQ : Hid (Q = R + 1) := by show _ = _; rw [← HWQ.out.2, ← HWR.out.1, ← HWR.out.2]; simp
 have HR : Hid (Rd W2 B c pk p S) := (h.kept HKR.out).kept HKQ.out
 have HK2 : Hid (Kept [] w W2) := HKR.out.trans HKQ.out (by simp)
 have s0 := HKQ.out.cell r0 (by simp)
 have s1 := HKQ.out.cell r1 (by simp)
 obtain ⟨b, o, ae, ce, ha, -, -, q2, -, q4, -⟩ := HR.out.sv.ino k hk
 have HN : Hid ((S.ino[k]).ents.length ≤ lim) := h.sv.n4 _ (List.getElem_mem hk)
 obtain ⟨E, hE⟩ : ∃ E, (S.ino[k]).ents = E := ⟨_, rfl⟩
 rw [hE] at q2 q4 HN ⊢
 have HEn : Hid (EntA W2 ae E) := q4
 have HA : Hid (atR S.ino d = some k ∧ p.a1 = some ⟨b, o, none⟩) := ⟨hat, ha⟩
 have d8 := HR.out.c8
 rw [ha] at d8
 have HC : Hid (W2.cell? ⟨B, 8, none⟩ = some (.slice (some ⟨b, o, none⟩) S.ino.length p.c1) ∧ W2.cell? ⟨B, 9, none⟩ = some (.slice p.a2 S.opn.length p.c2) ∧ W2.cell? ⟨B, 10, none⟩ = some (.slice p.a3 S.made.length p.c3) ∧ W2.cell? ⟨R, 0, none⟩ = some (.int .i64 d) ∧ W2.cell? ⟨b, o + k * 4 + 2, none⟩ = some (.slice ae E.length ce)) := ⟨d8, HR.out.c9, HR.out.c10, s0, q2⟩
 have HIn : Hid (∀ W, Sv W p S → Calls Tryz.prog 48 #[.agg #[.slice (some ⟨b, o, none⟩) S.ino.length p.c1, .slice p.a2 S.opn.length p.c2, .slice p.a3 S.made.length p.c3], .int .i64 d] W fun e w' => e = .returned (.pointer (some ⟨b, o + k * 4, none⟩)) ∧ Kept [] W w') := fun W hW => by
  have := p_inode_some hW d hat ha
  unfold sval at this
  rw [ha] at this
  exact this
 have hlim : E.length ≤ 140737488355328 := HN.out
 obtain ⟨bt, hbt⟩ : ∃ bt : Nat, bkt t = (bt : Int) := ⟨(bkt t).toNat, by have := bkt_range t; omega⟩
 have HBt : Hid (_) := hbt
 clear h hat hE q2 q4 ha d8 r0 r1 hbt
 go_enter Tryz.func130, Tryz.ntmps130
 go_upto_region 2 with fail
 rw [HWR.out.1, HWR.out.2, HWQ.out.1]
 rw [HQ.out] at l0 l1
 clear HWR HWQ
 go_region_held3 (fun w' => w'.cell? ⟨B, 8, none⟩ = some (.slice (some ⟨b, o, none⟩) S.ino.length p.c1) ∧ w'.cell? ⟨B, 9, none⟩ = some (.slice p.a2 S.opn.length p.c2) ∧ w'.cell? ⟨B, 10, none⟩ = some (.slice p.a3 S.made.length p.c3) ∧ w'.cell? ⟨R, 0, none⟩ = some (.int .i64 d) ∧ w'.cell? ⟨b, o + k * 4 + 2, none⟩ = some (.slice ae E.length ce)) (first | exact HC.out | exact z4 | go_keep)
  (first
   | (go_at_call 48; refine (HIn.out _ (HR.out.sv.kept (Kept.refl _ _).drew)).mono ?_; rintro e w4 ⟨rfl, k4⟩; have z4 := (⟨k4.cell (HC.out.1) (by simp), k4.cell (HC.out.2.1) (by simp), k4.cell (HC.out.2.2.1) (by simp), k4.cell (HC.out.2.2.2.1) (by simp), k4.cell (HC.out.2.2.2.2) (by simp)⟩ : w4.cell? ⟨B, 8, none⟩ = some (.slice (some ⟨b, o, none⟩) S.ino.length p.c1) ∧ w4.cell? ⟨B, 9, none⟩ = some (.slice p.a2 S.opn.length p.c2) ∧ w4.cell? ⟨B, 10, none⟩ = some (.slice p.a3 S.made.length p.c3) ∧ w4.cell? ⟨R, 0, none⟩ = some (.int .i64 d) ∧ w4.cell? ⟨b, o + k * 4 + 2, none⟩ = some (.slice ae E.length ce)); have HK4 : Hid (Kept [] W2 w4) := (Kept.refl _ _).drew.trans k4 (by simp); clear k4))
 have HEn4 : Hid (EntA w4 ae E) := HEn.out.kept HK4.out
 have HSp : Hid (w4.cell? ⟨R, 0, none⟩ = some (.int .i64 d) ∧ w4.cell? ⟨R, 1, none⟩ = some (.string t) ∧ w4.cell? ⟨R + 1, 0, none⟩ = some (.int .i64 ld) ∧ w4.cell? ⟨R + 1, 1, none⟩ = some (.string lt)) := ⟨HK4.out.cell s0 (by simp), HK4.out.cell s1 (by simp), HK4.out.cell l0 (by simp), HK4.out.cell l1 (by simp)⟩
 have HK04 : Hid (Kept [] w w4) := HK2.out.trans HK4.out (by simp)
 clear z4 HC HK4 s0 s1 l0 l1
 go_wp2_with fail
 go_loopw [21, 7] (fun i u wr => ∃ n : Nat, i = .int .i64 (n : Int) ∧ u = .int .i64 ((nFull (E.take n) d t ld lt : Nat) : Int) ∧ n ≤ E.length ∧ Hid (Kept [] w4 wr)) (fun i _ _ => (E.length - intOf i).toNat)
 case atStart => exact ⟨0, rfl, rfl, by omega, Kept.refl _ _⟩
 case round =>
  obtain ⟨n, rfl, rfl, hn, HJ⟩ := hrel
  by_cases hlt : n < E.length
  ·
   have j0 : (0 : Int) ≤ (n : Int) := by omega
   have j1 : (n : Int) < (E.length : Int) := by omega
   obtain ⟨b5, o5, hb5, g1, g2⟩ := (HEn4.out.kept HJ.out) n hlt
   have HA5 : Hid (_) := hb5
   have HTk : Hid (_) := nFull_take (d := d) (ld := ld) (t := t) (lt := lt) hlt
   have hfl : nFull (E.take n) d t ld lt ≤ n := by
    have : nFull (E.take n) d t ld lt ≤ (E.take n).length := List.countP_le_length
    rw [List.length_take] at this
    omega
   have HIQ : Hid (inQ d t ld lt E[n] = (bkt (E[n]).1 == bkt t && !(ld == d && lt.toList == (E[n]).1.toList))) := rfl
   obtain ⟨q, hq⟩ : ∃ q, nFull (E.take n) d t ld lt = q := ⟨_, rfl⟩
   rw [hq] at hfl HTk ⊢
   obtain ⟨te, hte⟩ : ∃ te, (E[n]).1 = te := ⟨_, rfl⟩
   rw [hte] at g1 HIQ
   generalize (E[n]).2 = ze at g2
   obtain ⟨be, hbe⟩ : ∃ be : Nat, bkt te = (be : Int) := ⟨(bkt te).toNat, by have := bkt_range te; omega⟩
   have HBe : Hid (_) := hbe
   rw [hb5]
   clear hq hte hb5 hbe
   obtain ⟨Wz, Z, HWZ, HKZ, e0, e1⟩ := box2 ‹_› (.string te) (.int .i64 ze) 64
   have HKz : Hid (Kept [] w4 Wz) := HJ.out.trans HKZ.out (by simp)
   have HC : Hid (Kept [] Wz Wz ∧ Wz.cell? ⟨R, 0, none⟩ = some (.int .i64 d) ∧ Wz.cell? ⟨R, 1, none⟩ = some (.string t) ∧ Wz.cell? ⟨R + 1, 0, none⟩ = some (.int .i64 ld) ∧ Wz.cell? ⟨R + 1, 1, none⟩ = some (.string lt) ∧ Wz.cell? ⟨Z, 0, none⟩ = some (.string te)) := ⟨Kept.refl _ _, HKz.out.cell HSp.out.1 (by simp), HKz.out.cell HSp.out.2.1 (by simp), HKz.out.cell HSp.out.2.2.1 (by simp), HKz.out.cell HSp.out.2.2.2 (by simp), e0⟩
   go_upto_region 5 with fail
   rw [HWZ.out.1, HWZ.out.2]
   clear HWZ g1 g2 HJ HKZ e0 e1
   by_cases hbq : be = bt
   ·
    have b1 : ((be : Int) == (bt : Int)) = true := by rw [hbq]; simp
    have HI2 : Hid (inQ d t ld lt E[n] = !(ld == d && lt.toList == te.toList)) := by
     show _ = _
     rw [HIQ.out, HBe.out, HBt.out, b1]
     rfl
    have HBe2 : Hid (bkt te = (bt : Int)) := by show _ = _; rw [HBe.out, hbq]
    have b2 : ((bt : Int) == (bt : Int)) = true := by simp
    obtain ⟨r, hr⟩ : ∃ r, (!(ld == d && lt.toList == te.toList)) = r := ⟨_, rfl⟩
    have hnq : ∀ w, (binOp .neq 147 (.agg #[.int .i64 ld, .string lt]) (.agg #[.int .i64 d, .string te])).run Tryz.prog w = .ok (.bool r) w := fun w => by rw [neq_spot, hr]
    rw [hr] at HI2
    rw [HI2.out] at HTk
    clear HIQ HBe hbq b1 hr HI2
    cases r
    ·
     have HT2 : Hid (nFull (E.take (n + 1)) d t ld lt = q) := by show _ = _; rw [HTk.out]; simp
     clear HTk
     go_region_held3 (fun w' => Kept [] Wz w' ∧ w'.cell? ⟨R, 0, none⟩ = some (.int .i64 d) ∧ w'.cell? ⟨R, 1, none⟩ = some (.string t) ∧ w'.cell? ⟨R + 1, 0, none⟩ = some (.int .i64 ld) ∧ w'.cell? ⟨R + 1, 1, none⟩ = some (.string lt) ∧ w'.cell? ⟨Z, 0, none⟩ = some (.string te)) (first | exact s5_kept HC.out (Kept.refl _ _).drew | exact z4 | go_keep)
      (first
       | (go_at_call 77; refine (bucket_as te bt HBe2.out _).mono ?_; rintro e w5 ⟨rfl, k4⟩; have z4 := s5_kept (by assumption) k4)
       | (go_at_call 77; refine (bucket_as t bt HBt.out _).mono ?_; rintro e w5 ⟨rfl, k4⟩; have z4 := s5_kept (by assumption) k4))
     have HKf : Hid (Kept [] w4 w5) := HKz.out.trans z4.1 (by simp)
     clear z4 HC
     go_wp2_with fail
     go_roundw
     case rel => exact ⟨n + 1, by go_num, by rw [HT2.out], by omega, HKf.out⟩
     case measure => simp [intOf]; omega
    ·
     have HT2 : Hid (nFull (E.take (n + 1)) d t ld lt = q + 1) := by show _ = _; rw [HTk.out]; simp
     clear HTk
     go_region_held3 (fun w' => Kept [] Wz w' ∧ w'.cell? ⟨R, 0, none⟩ = some (.int .i64 d) ∧ w'.cell? ⟨R, 1, none⟩ = some (.string t) ∧ w'.cell? ⟨R + 1, 0, none⟩ = some (.int .i64 ld) ∧ w'.cell? ⟨R + 1, 1, none⟩ = some (.string lt) ∧ w'.cell? ⟨Z, 0, none⟩ = some (.string te)) (first | exact s5_kept HC.out (Kept.refl _ _).drew | exact z4 | go_keep)
      (first
       | (go_at_call 77; refine (bucket_as te bt HBe2.out _).mono ?_; rintro e w5 ⟨rfl, k4⟩; have z4 := s5_kept (by assumption) k4)
       | (go_at_call 77; refine (bucket_as t bt HBt.out _).mono ?_; rintro e w5 ⟨rfl, k4⟩; have z4 := s5_kept (by assumption) k4))
     have HKf : Hid (Kept [] w4 w5) := HKz.out.trans z4.1 (by simp)
     clear z4 HC
     go_wp2_with fail
     go_roundw
     case rel => exact ⟨n + 1, by go_num, by rw [HT2.out]; go_num, by omega, HKf.out⟩
     case measure => simp [intOf]; omega
   ·
    have b1 : ((be : Int) == (bt : Int)) = false := by simp; omega
    have HI2 : Hid (inQ d t ld lt E[n] = false) := by
     show _ = _
     rw [HIQ.out, HBe.out, HBt.out, b1]
     rfl
    have HT2 : Hid (nFull (E.take (n + 1)) d t ld lt = q) := by show _ = _; rw [HTk.out, HI2.out]; simp
    clear HIQ HTk HI2 hbq
    refine wp_region_held_drew (S := fun w' => Kept [] Wz w' ∧ w'.cell? ⟨R, 0, none⟩ = some (.int .i64 d) ∧ w'.cell? ⟨R, 1, none⟩ = some (.string t) ∧ w'.cell? ⟨R + 1, 0, none⟩ = some (.int .i64 ld) ∧ w'.cell? ⟨R + 1, 1, none⟩ = some (.string lt) ∧ w'.cell? ⟨Z, 0, none⟩ = some (.string te)) (by kernel_rfl) ?_ (fun hHeld => ?_)
    · exact s5_kept HC.out (Kept.refl _ _).drew
    refine tkA 0 rfl ?_
    refine tkA 1 rfl ?_
    refine tkA 3 rfl ?_
    refine tkA 4 rfl ?_
    refine wpAnyH_ready (rs := [2]) (by kernel_rfl) (by simp) ?_
    refine AllReadyH.cons rfl (fun K hK => ?_) AllReadyH.nil
    go_simp
    refine (bucket_as te be HBe.out _).mono ?_
    rintro e w5 ⟨rfl, k4⟩
    have z4 := s5_kept hHeld k4
    clear k4
    go_wp2_with fail
    refine hK.out _ _ ?_ (fun hHeld => ?_)
    · exact z4
    clear hK K
    try simp only [Act.put, List.setIfInBounds_toArray, List.set_cons_zero, List.set_cons_succ, List.getElem_toArray, List.getElem_cons_zero, List.getElem_cons_succ]
    refine wpAnyH_ready (rs := [5]) (by kernel_rfl) (by simp) ?_
    refine AllReadyH.cons rfl (fun K hK => ?_) AllReadyH.nil
    go_simp
    refine (bucket_as t bt HBt.out _).mono ?_
    rintro e w5 ⟨rfl, k4⟩
    have z4 := s5_kept hHeld k4
    clear k4
    go_wp2_with fail
    refine hK.out _ _ ?_ (fun hHeld => ?_)
    · exact z4
    clear hK K
    try simp only [Act.put, List.setIfInBounds_toArray, List.set_cons_zero, List.set_cons_succ, List.getElem_toArray, List.getElem_cons_zero, List.getElem_cons_succ]
    refine tkA 6 rfl ?_
    refine tkA 7 rfl ?_
    refine skA 8 rfl ?_
    refine skA 9 rfl ?_
    refine skA 10 rfl ?_
    refine skA 11 rfl ?_
    refine skA 12 rfl ?_
    refine skA 13 rfl ?_
    refine skA 14 rfl ?_
    refine tkA 15 rfl ?_
    refine wpAnyH_done (by kernel_rfl) ?_ _
    have HKf : Hid (Kept [] w4 w5) := HKz.out.trans z4.1 (by simp)
    clear z4 HC hHeld
    go_wp2_with fail
    go_roundw
    case rel => exact ⟨n + 1, by go_num, by rw [HT2.out], by omega, HKf.out⟩
    case measure => simp [intOf]; omega
  ·
   have j1 : ¬ (n : Int) < (E.length : Int) := by omega
   have HE : Hid (decide ((4 : Int) ≤ ((nFull (E.take n) d t ld lt : Nat) : Int)) = decide (4 ≤ nFull E d t ld lt)) := by
    show _ = _
    rw [List.take_of_length_le (by omega)]
    by_cases h4 : 4 ≤ nFull E d t ld lt
    · rw [decide_eq_true h4, decide_eq_true (by omega)]
    · rw [decide_eq_false h4, decide_eq_false (by omega)]
   generalize nFull (E.take n) d t ld lt = q at *
   have HK : Hid (Kept [] w _) := HK04.out.trans HJ.out (by simp)
   clear HJ
   go_wp2_with fail
   go_ret
   exact ⟨ret_bool HE.out, HK.out⟩
end Go.Proofs.YtffncojcnbhblaaGreatDoor
