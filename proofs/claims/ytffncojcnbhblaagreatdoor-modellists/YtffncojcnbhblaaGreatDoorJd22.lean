/-
  Joined of my texts Fd.
-/
import Derived.Test.YtffncojcnbhblaaGreatDoorJd21
import Derived.Test.YtffncojcnbhblaaGreatDoorTk
set_option linter.unusedVariables false
set_option linter.unusedSimpArgs false
set_option maxRecDepth 100000
set_option maxHeartbeats 8000000
namespace Go.Proofs.YtffncojcnbhblaaGreatDoor
open Go.RowKit
theorem run_min (n m : Nat) (w : World) : (Builtin.min_ #[3, 3] 3 #[.int .i64 (n : Int), .int .i64 (m : Int)]).run Tryz.prog w = .ok (.int .i64 ((min n m : Nat) : Int)) w := by
 have e : (min (n : Int) (m : Int)) = ((min n m : Nat) : Int) := by omega
 rw [← e]
 simp [Builtin.min_, Builtin.min2]
 split <;> omega
theorem run_max (n m : Nat) (w : World) : (Builtin.max_ #[3, 3] 3 #[.int .i64 (n : Int), .int .i64 (m : Int)]).run Tryz.prog w = .ok (.int .i64 ((max n m : Nat) : Int)) w := by
 have e : (max (n : Int) (m : Int)) = ((max n m : Nat) : Int) := by omega
 rw [← e]
 simp [Builtin.max_, Builtin.max2]
 split <;> omega
theorem inf_no {n : Int} (h : ¬ (0 ≤ n ∧ n ≤ 256)) : (decide (0 ≤ n) && decide (n ≤ 256)) = false := by
 rw [Bool.and_eq_false_iff, decide_eq_false_iff_not, decide_eq_false_iff_not]; omega
theorem inf_yes {n : Int} (h : 0 ≤ n ∧ n ≤ 256) : (decide (0 ≤ n) && decide (n ≤ 256)) = true := by
 rw [Bool.and_eq_true, decide_eq_true_eq, decide_eq_true_eq]; exact h
theorem p_read_off {w0 w : World} {B : Nat} {c : Cal} {pk v1 v2 v3 : Value} {ev : List Value} {S : Sta} (h : Cb w0 w B c pk v1 v2 v3 ev S) {j k : Nat} (hf : fdP S.opn c.core c.fd = some j) (hj : j < S.opn.length) (hat : atR S.ino (S.opn[j]).2.2 = some k) (hk : k < S.ino.length) (ho : ¬ (0 ≤ c.off ∧ c.off ≤ 256)) :
  Calls Tryz.prog 106 #[.pointer (some ⟨B, 0, none⟩)] w (Out w0 w B c pk v1 v2 v3 ev S (.error 9)) := by
 obtain ⟨W1, R, HWR, HKR, HRb, HC1, HRo, HRw, HRl, p, e1, e2, e3, hrd, f1, f3, HR, HV⟩ := prg h
 have HBd : Hid (Bd S) := h.bd
 have HF : Hid (fdP S.opn c.core c.fd = some j ∧ ∃ hj : j < S.opn.length, atR S.ino (S.opn[j]).2.2 = some k) := ⟨hf, hj, hat⟩
 obtain ⟨b1, o1, ae, ce, ha, -⟩ := hrd.sv.ino k hk
 have ho1 : o1 = 0 := by
  obtain ⟨g, hg⟩ := f1 _ ha
  simp only [Addr.mk.injEq, and_true] at hg
  exact hg.2
 subst ho1
 have HA : Hid (p.a1 = some ⟨b1, 0, none⟩) := ha
 have HO : Hid (_) := inf_no ho
 clear h e1 e2 e3 f1 f3 hrd hf hj hat ha ho
 go_enter Tryz.func106, Tryz.ntmps106
 go_upto_region 1 with fail
 rw [HWR.out.1, HWR.out.2]
 clear HWR
 go_wp2_with fail
 refine (p_file_some HR.out HF.out.1 HF.out.2.1 HF.out.2.2 HA.out).mono ?_
 rintro e w1 ⟨rfl, k1⟩
 rw [Nat.zero_add]
 have HK1 : Hid (Kept [] w w1) := HKR.out.trans k1 (by simp)
 have HC2 : Hid (_) := HC1.out.kept k1
 have HR2 : Hid (_) := HR.out.kept k1
 have HB1 : Hid (w1.heap[R]? = _) := (k1.block _ (lt_of_heap HRb.out) (by simp)).trans HRb.out
 obtain ⟨b2, o2, -, -, ha2, -, -, -, q3, -⟩ := HR2.out.sv.ino k hk
 rw [HA.out] at ha2
 simp only [Option.some.injEq, Addr.mk.injEq, and_true] at ha2
 obtain ⟨hb2, ho2⟩ := ha2
 subst hb2 ho2
 rw [Nat.zero_add] at q3
 obtain ⟨D, hD⟩ : ∃ D, (S.ino[k]).data = D := ⟨_, rfl⟩
 have HD : Hid (D.size ≤ 140737488351232) := by rw [← hD]; exact HBd.out.d1 _ (List.getElem_mem hk)
 rw [hD] at q3
 have HDe : Hid (_) := hD
 clear hD
 clear k1 HR HC1 HRb
 have d3 := HR2.out.c3
 go_wp2_with fail
 refine (p_infile c.off w1).mono ?_
 rintro e w2 ⟨rfl, hw⟩
 have hw2 := hw.symm
 subst hw2
 rw [HO.out]
 go_wp2_with fail
 refine (p_if 9 (by decide) _).mono ?_
 rintro e w3 ⟨rfl, hw⟩
 subst hw
 exact ⟨rfl, Out.err rfl HC2.out (FrB.kept HK1.out)⟩
theorem p_read_num {w0 w : World} {B : Nat} {c : Cal} {pk v1 v2 v3 : Value} {ev : List Value} {S : Sta} (h : Cb w0 w B c pk v1 v2 v3 ev S) {j k : Nat} (hf : fdP S.opn c.core c.fd = some j) (hj : j < S.opn.length) (hat : atR S.ino (S.opn[j]).2.2 = some k) (hk : k < S.ino.length) (ho : 0 ≤ c.off ∧ c.off ≤ 256) (hn : ¬ (0 ≤ c.num ∧ c.num ≤ 256)) :
  Calls Tryz.prog 106 #[.pointer (some ⟨B, 0, none⟩)] w (Out w0 w B c pk v1 v2 v3 ev S (.error 9)) := by
 obtain ⟨W1, R, HWR, HKR, HRb, HC1, HRo, HRw, HRl, p, e1, e2, e3, hrd, f1, f3, HR, HV⟩ := prg h
 have HBd : Hid (Bd S) := h.bd
 have HF : Hid (fdP S.opn c.core c.fd = some j ∧ ∃ hj : j < S.opn.length, atR S.ino (S.opn[j]).2.2 = some k) := ⟨hf, hj, hat⟩
 obtain ⟨b1, o1, ae, ce, ha, -⟩ := hrd.sv.ino k hk
 have ho1 : o1 = 0 := by
  obtain ⟨g, hg⟩ := f1 _ ha
  simp only [Addr.mk.injEq, and_true] at hg
  exact hg.2
 subst ho1
 have HA : Hid (p.a1 = some ⟨b1, 0, none⟩) := ha
 have HO : Hid (_) := inf_yes ho
 have HN : Hid (_) := inf_no hn
 clear h e1 e2 e3 f1 f3 hrd hf hj hat ha ho hn
 go_enter Tryz.func106, Tryz.ntmps106
 go_upto_region 1 with fail
 rw [HWR.out.1, HWR.out.2]
 clear HWR
 go_wp2_with fail
 refine (p_file_some HR.out HF.out.1 HF.out.2.1 HF.out.2.2 HA.out).mono ?_
 rintro e w1 ⟨rfl, k1⟩
 rw [Nat.zero_add]
 have HK1 : Hid (Kept [] w w1) := HKR.out.trans k1 (by simp)
 have HC2 : Hid (_) := HC1.out.kept k1
 have HR2 : Hid (_) := HR.out.kept k1
 have HB1 : Hid (w1.heap[R]? = _) := (k1.block _ (lt_of_heap HRb.out) (by simp)).trans HRb.out
 obtain ⟨b2, o2, -, -, ha2, -, -, -, q3, -⟩ := HR2.out.sv.ino k hk
 rw [HA.out] at ha2
 simp only [Option.some.injEq, Addr.mk.injEq, and_true] at ha2
 obtain ⟨hb2, ho2⟩ := ha2
 subst hb2 ho2
 rw [Nat.zero_add] at q3
 obtain ⟨D, hD⟩ : ∃ D, (S.ino[k]).data = D := ⟨_, rfl⟩
 have HD : Hid (D.size ≤ 140737488351232) := by rw [← hD]; exact HBd.out.d1 _ (List.getElem_mem hk)
 rw [hD] at q3
 have HDe : Hid (_) := hD
 clear hD
 clear k1 HR HC1 HRb
 have d3 := HR2.out.c3
 have d4 := HR2.out.c4
 go_wp2_with fail
 refine (p_infile c.off w1).mono ?_
 rintro e w2 ⟨rfl, hw⟩
 have hw2 := hw.symm
 subst hw2
 rw [HO.out]
 go_wp2_with fail
 refine (p_infile c.num w1).mono ?_
 rintro e w2 ⟨rfl, hw⟩
 have hw2 := hw.symm
 subst hw2
 rw [HN.out]
 go_wp2_with fail
 refine (p_if 9 (by decide) _).mono ?_
 rintro e w3 ⟨rfl, hw⟩
 subst hw
 exact ⟨rfl, Out.err rfl HC2.out (FrB.kept HK1.out)⟩
theorem p_read {w0 w : World} {B : Nat} {c : Cal} {pk v1 v2 v3 : Value} {ev : List Value} {S : Sta} (h : Cb w0 w B c pk v1 v2 v3 ev S) {j k : Nat} (hf : fdP S.opn c.core c.fd = some j) (hj : j < S.opn.length) (hat : atR S.ino (S.opn[j]).2.2 = some k) (hk : k < S.ino.length) {a m : Nat} (ho : c.off = (a : Int)) (ha6 : a ≤ 256) (hn : c.num = (m : Int)) (hm : m ≤ 256) :
  Calls Tryz.prog 106 #[.pointer (some ⟨B, 0, none⟩)] w (Out w0 w B c pk v1 v2 v3 ev S (.ok (S, ⟨0, 0, 0, false, (S.ino[k]).data.extract (min a (S.ino[k]).data.size) (min (a + m) (S.ino[k]).data.size), []⟩))) := by
 obtain ⟨W1, R, HWR, HKR, HRb, HC1, HRo, HRw, HRl, p, e1, e2, e3, hrd, f1, f3, HR, HV⟩ := prg h
 have HBd : Hid (Bd S) := h.bd
 have HF : Hid (fdP S.opn c.core c.fd = some j ∧ ∃ hj : j < S.opn.length, atR S.ino (S.opn[j]).2.2 = some k) := ⟨hf, hj, hat⟩
 obtain ⟨b1, o1, ae, ce, ha, -⟩ := hrd.sv.ino k hk
 have ho1 : o1 = 0 := by
  obtain ⟨g, hg⟩ := f1 _ ha
  simp only [Addr.mk.injEq, and_true] at hg
  exact hg.2
 subst ho1
 have HA : Hid (p.a1 = some ⟨b1, 0, none⟩) := ha
 have HO : Hid (_) := inf_yes (n := c.off) (by omega)
 have HN : Hid (_) := inf_yes (n := c.num) (by omega)
 have HO2 : Hid (c.off = (a : Int) ∧ c.num = (m : Int)) := ⟨ho, hn⟩
 clear h e1 e2 e3 f1 f3 hrd hf hj hat ha ho hn
 go_enter Tryz.func106, Tryz.ntmps106
 go_upto_region 1 with fail
 rw [HWR.out.1, HWR.out.2]
 clear HWR
 go_wp2_with fail
 refine (p_file_some HR.out HF.out.1 HF.out.2.1 HF.out.2.2 HA.out).mono ?_
 rintro e w1 ⟨rfl, k1⟩
 rw [Nat.zero_add]
 have HK1 : Hid (Kept [] w w1) := HKR.out.trans k1 (by simp)
 have HC2 : Hid (_) := HC1.out.kept k1
 have HR2 : Hid (_) := HR.out.kept k1
 have HB1 : Hid (w1.heap[R]? = _) := (k1.block _ (lt_of_heap HRb.out) (by simp)).trans HRb.out
 obtain ⟨b2, o2, -, -, ha2, -, -, -, q3, -⟩ := HR2.out.sv.ino k hk
 rw [HA.out] at ha2
 simp only [Option.some.injEq, Addr.mk.injEq, and_true] at ha2
 obtain ⟨hb2, ho2⟩ := ha2
 subst hb2 ho2
 rw [Nat.zero_add] at q3
 obtain ⟨D, hD⟩ : ∃ D, (S.ino[k]).data = D := ⟨_, rfl⟩
 have HD : Hid (D.size ≤ 140737488351232) := by rw [← hD]; exact HBd.out.d1 _ (List.getElem_mem hk)
 rw [hD] at q3
 have HDe : Hid (_) := hD
 clear hD
 clear k1 HR HC1 HRb
 have d3 := HR2.out.c3
 have d4 := HR2.out.c4
 go_wp2_with fail
 refine (p_infile c.off w1).mono ?_
 rintro e w2 ⟨rfl, hw⟩
 have hw2 := hw.symm
 subst hw2
 rw [HO.out]
 go_wp2_with fail
 refine (p_infile c.num w1).mono ?_
 rintro e w2 ⟨rfl, hw⟩
 have hw2 := hw.symm
 subst hw2
 rw [HN.out]
 go_wp2_with fail
 refine (p_if_no 9 _).mono ?_
 rintro e w2 ⟨rfl, hw⟩
 have hw2 := hw.symm
 subst hw2
 rw [HO2.out.1] at d3
 rw [HO2.out.2] at d4
 have HC : Hid (w1.cell? ⟨B, 3, none⟩ = some (.int .i64 (a : Int)) ∧ w1.cell? ⟨B, 4, none⟩ = some (.int .i64 (m : Int))) := ⟨d3, d4⟩
 obtain ⟨q, hq⟩ : ∃ q, a + m = q := ⟨_, rfl⟩
 have vs : IntKind.i64.wrap ((a : Int) + (m : Int)) = (q : Int) := by rw [IntKind.wrap_i64]; omega
 obtain ⟨fr, hfr⟩ : ∃ fr, min a D.size = fr := ⟨_, rfl⟩
 obtain ⟨te, hto⟩ : ∃ te, min q D.size = te := ⟨_, rfl⟩
 have mn1 := run_min a D.size
 have mn2 := run_min q D.size
 rw [hfr] at mn1
 rw [hto] at mn2
 have HE : Hid ((S.ino[k]).data.extract (min a (S.ino[k]).data.size) (min (a + m) (S.ino[k]).data.size) = D.extract fr te) := by show _ = _; rw [HDe.out, hq, hfr, hto]
 have HD2 := HD.out
 have l1 : fr ≤ te := by omega
 have l2 : te ≤ D.size := by omega
 have l3 : (0 : Int) ≤ (fr : Int) := by omega
 have l4 : (fr : Int) ≤ (te : Int) := by omega
 have l5 : (te : Int) ≤ (D.size : Int) := by omega
 have d63 : D.size ≤ 9223372036854775807 := by omega
 have HZ : Hid ((D.extract fr te).size ≤ 140737488351232) := by show _ ≤ _; rw [ByteArray.size_extract]; omega
 clear d3 d4 q3 hq hfr hto HD2 ha6 hm
 go_upto_region 3 with fail
 refine wp_region_held_drew (S := fun w' => w'.cell? ⟨B, 3, none⟩ = some (.int .i64 (a : Int)) ∧ w'.cell? ⟨B, 4, none⟩ = some (.int .i64 (m : Int))) (by kernel_rfl) ?_ (fun hHeld => ?_)
 · exact HC.out
 refine tkA 0 rfl ?_
 refine tkA 1 rfl ?_
 refine tkA 2 rfl ?_
 refine tkA 3 rfl ?_
 refine tkA 4 rfl ?_
 refine tkA 5 rfl ?_
 refine tkA 6 rfl ?_
 refine tkA 7 rfl ?_
 refine tkA 8 rfl ?_
 refine tkA 9 rfl ?_
 refine tkA 10 rfl ?_
 refine tkA 11 rfl ?_
 refine tkA 12 rfl ?_
 refine tkA 13 rfl ?_
 refine tkA 14 rfl ?_
 refine tkA 15 rfl ?_
 refine tkA 16 rfl ?_
 refine tkA 17 rfl ?_
 refine tkA 18 rfl ?_
 refine tkA 19 rfl ?_
 refine tkA 20 rfl ?_
 refine tkA 21 rfl ?_
 refine tkA 22 rfl ?_
 refine tkA 23 rfl ?_
 refine wpAnyH_done (by kernel_rfl) ?_ _
 have HKd : Hid (Kept [] w1 w1.drew) := (Kept.refl _ _).drew
 obtain ⟨W4, hW4⟩ : ∃ W4, w1.drew = W4 := ⟨_, rfl⟩
 rw [hW4] at HKd ⊢
 clear hW4
 go_wp2_with fail
 refine (s_clone (D.extract fr te) W4 HZ.out).mono ?_
 rintro e w3 ⟨rfl, k3⟩
 have HK3 : Hid (Kept [] w w3) := (HK1.out.trans HKd.out (by simp)).trans k3 (by simp)
 have HC3 : Hid (_) := (HC2.out.kept HKd.out).kept k3
 have HB3 : Hid (w3.heap[R]? = _) := ((HKd.out.trans k3 (by simp)).block _ (lt_of_heap HB1.out) (by simp)).trans HB1.out
 clear k3
 obtain ⟨g0, g1, g2, g3, g4, g5⟩ := cz6 HB3.out
 obtain ⟨z0, z1, z2, z3, z4, z5⟩ := fz6 HB3.out
 go_wp2_with fail
 (try simp only [Exit.inBlock, Exit.then])
 refine bodyPost_ret (results_cell_row rfl _ _ R 31 #[.int .i64 0, .int .i64 0, .int .i64 0, .bool false, .string (D.extract fr te), .slice none 0 0] (0, 0) _ rfl (block_res HB3.out _ _ _ _ _ _) Tryz.underlying31 rfl (by kernel_rfl)) rfl ?_
 exact Out.val (by rw [HE.out]) rfl rfl (HC3.out.res HRl.out HRo.out.1 HRo.out.2 _ _ _ _ _ _) (FrB.res (FrB.kept HK3.out) HRw.out _ _ _ _ _ _)
def writeL (D t : ByteArray) (a : Nat) : List Int := (sizedL D (max D.size (a + t.size))).take a ++ byI t ++ (sizedL D (max D.size (a + t.size))).drop (a + t.size)
theorem writeL_length (D t : ByteArray) (a : Nat) : (writeL D t a).length = max D.size (a + t.size) := by
 unfold writeL
 rw [List.length_append, List.length_append, List.length_take, List.length_drop, sizedL_length, byI_length]
 omega
theorem p_write_off {w0 w : World} {B : Nat} {c : Cal} {pk v1 v2 v3 : Value} {ev : List Value} {S : Sta} (h : Cb w0 w B c pk v1 v2 v3 ev S) {j k : Nat} (hf : fdP S.opn c.core c.fd = some j) (hj : j < S.opn.length) (hat : atR S.ino (S.opn[j]).2.2 = some k) (hk : k < S.ino.length) (hz : c.data.size ≤ 9223372036854775807) (ho : ¬ (0 ≤ c.off ∧ c.off ≤ 256)) :
  Calls Tryz.prog 107 #[.pointer (some ⟨B, 0, none⟩)] w (Out w0 w B c pk v1 v2 v3 ev S (.error 9)) := by
 obtain ⟨W1, R, HWR, HKR, HRb, HC1, HRo, HRw, HRl, p, e1, e2, e3, hrd, f1, f3, HR, HV⟩ := prg h
 have HBd : Hid (Bd S) := h.bd
 have HF : Hid (fdP S.opn c.core c.fd = some j ∧ ∃ hj : j < S.opn.length, atR S.ino (S.opn[j]).2.2 = some k) := ⟨hf, hj, hat⟩
 obtain ⟨b1, o1, ae, ce, ha, -⟩ := hrd.sv.ino k hk
 have ho1 : o1 = 0 := by
  obtain ⟨g, hg⟩ := f1 _ ha
  simp only [Addr.mk.injEq, and_true] at hg
  exact hg.2
 subst ho1
 have HA : Hid (p.a1 = some ⟨b1, 0, none⟩) := ha
 have HZ63 : Hid (c.data.size ≤ 9223372036854775807) := hz
 have HO : Hid (_) := inf_no ho
 clear h e1 e2 e3 f1 f3 hrd hf hj hat ha ho hz
 go_enter Tryz.func107, Tryz.ntmps107
 go_upto_region 1 with fail
 rw [HWR.out.1, HWR.out.2]
 clear HWR
 go_wp2_with fail
 refine (p_file_some HR.out HF.out.1 HF.out.2.1 HF.out.2.2 HA.out).mono ?_
 rintro e w1 ⟨rfl, k1⟩
 rw [Nat.zero_add]
 have HK1 : Hid (Kept [] w w1) := HKR.out.trans k1 (by simp)
 have HC2 : Hid (_) := HC1.out.kept k1
 have HR2 : Hid (_) := HR.out.kept k1
 have HB1 : Hid (w1.heap[R]? = _) := (k1.block _ (lt_of_heap HRb.out) (by simp)).trans HRb.out
 obtain ⟨b2, o2, -, -, ha2, -, -, -, q3, -⟩ := HR2.out.sv.ino k hk
 rw [HA.out] at ha2
 simp only [Option.some.injEq, Addr.mk.injEq, and_true] at ha2
 obtain ⟨hb2, ho2⟩ := ha2
 subst hb2 ho2
 rw [Nat.zero_add] at q3
 obtain ⟨D, hD⟩ : ∃ D, (S.ino[k]).data = D := ⟨_, rfl⟩
 have HD : Hid (D.size ≤ 140737488351232) := by rw [← hD]; exact HBd.out.d1 _ (List.getElem_mem hk)
 rw [hD] at q3
 have HDe : Hid (_) := hD
 clear hD
 clear k1 HR HC1 HRb
 have d3 := HR2.out.c3
 have d7 := HR2.out.c7
 have z63 : c.data.size ≤ 9223372036854775807 := HZ63.out
 go_wp2_with fail
 refine (p_infile c.off w1).mono ?_
 rintro e w2 ⟨rfl, hw⟩
 have hw2 := hw.symm
 subst hw2
 rw [HO.out]
 go_wp2_with fail
 refine (p_if 9 (by decide) _).mono ?_
 rintro e w3 ⟨rfl, hw⟩
 subst hw
 exact ⟨rfl, Out.err rfl HC2.out (FrB.kept HK1.out)⟩
theorem p_write_size {w0 w : World} {B : Nat} {c : Cal} {pk v1 v2 v3 : Value} {ev : List Value} {S : Sta} (h : Cb w0 w B c pk v1 v2 v3 ev S) {j k : Nat} (hf : fdP S.opn c.core c.fd = some j) (hj : j < S.opn.length) (hat : atR S.ino (S.opn[j]).2.2 = some k) (hk : k < S.ino.length) (hz : c.data.size ≤ 9223372036854775807) (ho : 0 ≤ c.off ∧ c.off ≤ 256) (hn : 256 < c.data.size) :
  Calls Tryz.prog 107 #[.pointer (some ⟨B, 0, none⟩)] w (Out w0 w B c pk v1 v2 v3 ev S (.error 9)) := by
 obtain ⟨W1, R, HWR, HKR, HRb, HC1, HRo, HRw, HRl, p, e1, e2, e3, hrd, f1, f3, HR, HV⟩ := prg h
 have HBd : Hid (Bd S) := h.bd
 have HF : Hid (fdP S.opn c.core c.fd = some j ∧ ∃ hj : j < S.opn.length, atR S.ino (S.opn[j]).2.2 = some k) := ⟨hf, hj, hat⟩
 obtain ⟨b1, o1, ae, ce, ha, -⟩ := hrd.sv.ino k hk
 have ho1 : o1 = 0 := by
  obtain ⟨g, hg⟩ := f1 _ ha
  simp only [Addr.mk.injEq, and_true] at hg
  exact hg.2
 subst ho1
 have HA : Hid (p.a1 = some ⟨b1, 0, none⟩) := ha
 have HZ63 : Hid (c.data.size ≤ 9223372036854775807) := hz
 have HO : Hid (_) := inf_yes ho
 have HN : Hid ((decide (0 ≤ (c.data.size : Int)) && decide ((c.data.size : Int) ≤ 256)) = false) := inf_no (by omega)
 clear h e1 e2 e3 f1 f3 hrd hf hj hat ha ho hn hz
 go_enter Tryz.func107, Tryz.ntmps107
 go_upto_region 1 with fail
 rw [HWR.out.1, HWR.out.2]
 clear HWR
 go_wp2_with fail
 refine (p_file_some HR.out HF.out.1 HF.out.2.1 HF.out.2.2 HA.out).mono ?_
 rintro e w1 ⟨rfl, k1⟩
 rw [Nat.zero_add]
 have HK1 : Hid (Kept [] w w1) := HKR.out.trans k1 (by simp)
 have HC2 : Hid (_) := HC1.out.kept k1
 have HR2 : Hid (_) := HR.out.kept k1
 have HB1 : Hid (w1.heap[R]? = _) := (k1.block _ (lt_of_heap HRb.out) (by simp)).trans HRb.out
 obtain ⟨b2, o2, -, -, ha2, -, -, -, q3, -⟩ := HR2.out.sv.ino k hk
 rw [HA.out] at ha2
 simp only [Option.some.injEq, Addr.mk.injEq, and_true] at ha2
 obtain ⟨hb2, ho2⟩ := ha2
 subst hb2 ho2
 rw [Nat.zero_add] at q3
 obtain ⟨D, hD⟩ : ∃ D, (S.ino[k]).data = D := ⟨_, rfl⟩
 have HD : Hid (D.size ≤ 140737488351232) := by rw [← hD]; exact HBd.out.d1 _ (List.getElem_mem hk)
 rw [hD] at q3
 have HDe : Hid (_) := hD
 clear hD
 clear k1 HR HC1 HRb
 have d3 := HR2.out.c3
 have d7 := HR2.out.c7
 have z63 : c.data.size ≤ 9223372036854775807 := HZ63.out
 go_wp2_with fail
 refine (p_infile c.off w1).mono ?_
 rintro e w2 ⟨rfl, hw⟩
 have hw2 := hw.symm
 subst hw2
 rw [HO.out]
 go_wp2_with fail
 refine (p_infile (c.data.size : Int) w1).mono ?_
 rintro e w2 ⟨rfl, hw⟩
 have hw2 := hw.symm
 subst hw2
 rw [HN.out]
 go_wp2_with fail
 refine (p_if 9 (by decide) _).mono ?_
 rintro e w3 ⟨rfl, hw⟩
 subst hw
 exact ⟨rfl, Out.err rfl HC2.out (FrB.kept HK1.out)⟩
theorem p_write_full {w0 w : World} {B : Nat} {c : Cal} {pk v1 v2 v3 : Value} {ev : List Value} {S : Sta} (h : Cb w0 w B c pk v1 v2 v3 ev S) {j k : Nat} (hf : fdP S.opn c.core c.fd = some j) (hj : j < S.opn.length) (hat : atR S.ino (S.opn[j]).2.2 = some k) (hk : k < S.ino.length) {a : Nat} (ho : c.off = (a : Int)) (ha6 : a ≤ 256) (hz6 : c.data.size ≤ 256) (hq6 : 256 < a + c.data.size) :
  Calls Tryz.prog 107 #[.pointer (some ⟨B, 0, none⟩)] w (Out w0 w B c pk v1 v2 v3 ev S (.error 5)) := by
 obtain ⟨W1, R, HWR, HKR, HRb, HC1, HRo, HRw, HRl, p, e1, e2, e3, hrd, f1, f3, HR, HV⟩ := prg h
 have HBd : Hid (Bd S) := h.bd
 have HF : Hid (fdP S.opn c.core c.fd = some j ∧ ∃ hj : j < S.opn.length, atR S.ino (S.opn[j]).2.2 = some k) := ⟨hf, hj, hat⟩
 obtain ⟨b1, o1, ae, ce, ha, -⟩ := hrd.sv.ino k hk
 have ho1 : o1 = 0 := by
  obtain ⟨g, hg⟩ := f1 _ ha
  simp only [Addr.mk.injEq, and_true] at hg
  exact hg.2
 subst ho1
 have HA : Hid (p.a1 = some ⟨b1, 0, none⟩) := ha
 have HO : Hid (_) := inf_yes (n := c.off) (by omega)
 have HN : Hid ((decide (0 ≤ (c.data.size : Int)) && decide ((c.data.size : Int) ≤ 256)) = true) := inf_yes (by omega)
 have HO2 : Hid (c.off = (a : Int)) := ho
 have HZ63 : Hid (c.data.size ≤ 9223372036854775807) := by show _ ≤ _; omega
 clear h e1 e2 e3 f1 f3 hrd hf hj hat ha ho
 go_enter Tryz.func107, Tryz.ntmps107
 go_upto_region 1 with fail
 rw [HWR.out.1, HWR.out.2]
 clear HWR
 go_wp2_with fail
 refine (p_file_some HR.out HF.out.1 HF.out.2.1 HF.out.2.2 HA.out).mono ?_
 rintro e w1 ⟨rfl, k1⟩
 rw [Nat.zero_add]
 have HK1 : Hid (Kept [] w w1) := HKR.out.trans k1 (by simp)
 have HC2 : Hid (_) := HC1.out.kept k1
 have HR2 : Hid (_) := HR.out.kept k1
 have HB1 : Hid (w1.heap[R]? = _) := (k1.block _ (lt_of_heap HRb.out) (by simp)).trans HRb.out
 obtain ⟨b2, o2, -, -, ha2, -, -, -, q3, -⟩ := HR2.out.sv.ino k hk
 rw [HA.out] at ha2
 simp only [Option.some.injEq, Addr.mk.injEq, and_true] at ha2
 obtain ⟨hb2, ho2⟩ := ha2
 subst hb2 ho2
 rw [Nat.zero_add] at q3
 obtain ⟨D, hD⟩ : ∃ D, (S.ino[k]).data = D := ⟨_, rfl⟩
 have HD : Hid (D.size ≤ 140737488351232) := by rw [← hD]; exact HBd.out.d1 _ (List.getElem_mem hk)
 rw [hD] at q3
 have HDe : Hid (_) := hD
 clear hD
 clear k1 HR HC1 HRb
 have d3 := HR2.out.c3
 have d7 := HR2.out.c7
 have z63 : c.data.size ≤ 9223372036854775807 := HZ63.out
 go_wp2_with fail
 refine (p_infile c.off w1).mono ?_
 rintro e w2 ⟨rfl, hw⟩
 have hw2 := hw.symm
 subst hw2
 rw [HO.out]
 go_wp2_with fail
 refine (p_infile (c.data.size : Int) w1).mono ?_
 rintro e w2 ⟨rfl, hw⟩
 have hw2 := hw.symm
 subst hw2
 rw [HN.out]
 go_wp2_with fail
 refine (p_if_no 9 _).mono ?_
 rintro e w2 ⟨rfl, hw⟩
 have hw2 := hw.symm
 subst hw2
 rw [HO2.out] at d3
 obtain ⟨q, hq⟩ : ∃ q, a + c.data.size = q := ⟨_, rfl⟩
 have vs : IntKind.i64.wrap ((a : Int) + (c.data.size : Int)) = (q : Int) := by rw [IntKind.wrap_i64]; omega
 have vt : wrap64 ((a : Int) + (c.data.size : Int)) = (q : Int) := by unfold wrap64; omega
 have HQ : Hid (a + c.data.size = q) := hq
 have HI : Hid ((decide (0 ≤ (q : Int)) && decide ((q : Int) ≤ 256)) = false) := inf_no (by omega)
 clear hq hq6
 go_wp2_with fail
 refine (p_infile (q : Int) w1).mono ?_
 rintro e w2 ⟨rfl, hw⟩
 have hw2 := hw.symm
 subst hw2
 rw [HI.out]
 go_wp2_with fail
 refine (p_if 5 (by decide) _).mono ?_
 rintro e w3 ⟨rfl, hw⟩
 subst hw
 exact ⟨rfl, Out.err rfl HC2.out (FrB.kept HK1.out)⟩
theorem p_write_zero {w0 w : World} {B : Nat} {c : Cal} {pk v1 v2 v3 : Value} {ev : List Value} {S : Sta} (h : Cb w0 w B c pk v1 v2 v3 ev S) {j k : Nat} (hf : fdP S.opn c.core c.fd = some j) (hj : j < S.opn.length) (hat : atR S.ino (S.opn[j]).2.2 = some k) (hk : k < S.ino.length) {a : Nat} (ho : c.off = (a : Int)) (ha6 : a ≤ 256) (hz6 : c.data.size = 0) :
  Calls Tryz.prog 107 #[.pointer (some ⟨B, 0, none⟩)] w (Out w0 w B c pk v1 v2 v3 ev S (.ok (S, ansC 0))) := by
 obtain ⟨W1, R, HWR, HKR, HRb, HC1, HRo, HRw, HRl, p, e1, e2, e3, hrd, f1, f3, HR, HV⟩ := prg h
 have HBd : Hid (Bd S) := h.bd
 have HF : Hid (fdP S.opn c.core c.fd = some j ∧ ∃ hj : j < S.opn.length, atR S.ino (S.opn[j]).2.2 = some k) := ⟨hf, hj, hat⟩
 obtain ⟨b1, o1, ae, ce, ha, -⟩ := hrd.sv.ino k hk
 have ho1 : o1 = 0 := by
  obtain ⟨g, hg⟩ := f1 _ ha
  simp only [Addr.mk.injEq, and_true] at hg
  exact hg.2
 subst ho1
 have HA : Hid (p.a1 = some ⟨b1, 0, none⟩) := ha
 have HO : Hid (_) := inf_yes (n := c.off) (by omega)
 have HN : Hid ((decide (0 ≤ (c.data.size : Int)) && decide ((c.data.size : Int) ≤ 256)) = true) := inf_yes (by omega)
 have HO2 : Hid (c.off = (a : Int)) := ho
 have HZ63 : Hid (c.data.size ≤ 9223372036854775807) := by show _ ≤ _; omega
 have HZ0 : Hid (c.data.size = 0) := hz6
 clear h e1 e2 e3 f1 f3 hrd hf hj hat ha ho hz6
 go_enter Tryz.func107, Tryz.ntmps107
 go_upto_region 1 with fail
 rw [HWR.out.1, HWR.out.2]
 clear HWR
 go_wp2_with fail
 refine (p_file_some HR.out HF.out.1 HF.out.2.1 HF.out.2.2 HA.out).mono ?_
 rintro e w1 ⟨rfl, k1⟩
 rw [Nat.zero_add]
 have HK1 : Hid (Kept [] w w1) := HKR.out.trans k1 (by simp)
 have HC2 : Hid (_) := HC1.out.kept k1
 have HR2 : Hid (_) := HR.out.kept k1
 have HB1 : Hid (w1.heap[R]? = _) := (k1.block _ (lt_of_heap HRb.out) (by simp)).trans HRb.out
 obtain ⟨b2, o2, -, -, ha2, -, -, -, q3, -⟩ := HR2.out.sv.ino k hk
 rw [HA.out] at ha2
 simp only [Option.some.injEq, Addr.mk.injEq, and_true] at ha2
 obtain ⟨hb2, ho2⟩ := ha2
 subst hb2 ho2
 rw [Nat.zero_add] at q3
 obtain ⟨D, hD⟩ : ∃ D, (S.ino[k]).data = D := ⟨_, rfl⟩
 have HD : Hid (D.size ≤ 140737488351232) := by rw [← hD]; exact HBd.out.d1 _ (List.getElem_mem hk)
 rw [hD] at q3
 have HDe : Hid (_) := hD
 clear hD
 clear k1 HR HC1 HRb
 have d3 := HR2.out.c3
 have d7 := HR2.out.c7
 have z63 : c.data.size ≤ 9223372036854775807 := HZ63.out
 go_wp2_with fail
 refine (p_infile c.off w1).mono ?_
 rintro e w2 ⟨rfl, hw⟩
 have hw2 := hw.symm
 subst hw2
 rw [HO.out]
 go_wp2_with fail
 refine (p_infile (c.data.size : Int) w1).mono ?_
 rintro e w2 ⟨rfl, hw⟩
 have hw2 := hw.symm
 subst hw2
 rw [HN.out]
 go_wp2_with fail
 refine (p_if_no 9 _).mono ?_
 rintro e w2 ⟨rfl, hw⟩
 have hw2 := hw.symm
 subst hw2
 rw [HO2.out] at d3
 have hz7 := HZ0.out
 obtain ⟨q, hq⟩ : ∃ q, a + c.data.size = q := ⟨_, rfl⟩
 have vs : IntKind.i64.wrap ((a : Int) + (c.data.size : Int)) = (q : Int) := by rw [IntKind.wrap_i64]; omega
 have vt : wrap64 ((a : Int) + (c.data.size : Int)) = (q : Int) := by unfold wrap64; omega
 have HQ : Hid (a + c.data.size = q) := hq
 have HI : Hid ((decide (0 ≤ (q : Int)) && decide ((q : Int) ≤ 256)) = true) := inf_yes (by omega)
 clear hq hz7
 go_wp2_with fail
 refine (p_infile (q : Int) w1).mono ?_
 rintro e w2 ⟨rfl, hw⟩
 have hw2 := hw.symm
 subst hw2
 rw [HI.out]
 go_wp2_with fail
 refine (p_if_no 5 _).mono ?_
 rintro e w2 ⟨rfl, hw⟩
 have hw2 := hw.symm
 subst hw2
 have z0' : ¬ (c.data.size : Int) > 0 := by have := HZ0.out; omega
 have z0'' : ¬ (0 : Int) < (c.data.size : Int) := by have := HZ0.out; omega
 have HC3 : Hid (_) := HC2.out
 have HK3 : Hid (_) := HK1.out
 obtain ⟨g0, g1, g2, g3, g4, g5⟩ := cz6 HB1.out
 obtain ⟨z0, z1, z2, z3, z4, z5⟩ := fz6 HB1.out
 go_wp2_with fail
 (try simp only [Exit.inBlock, Exit.then])
 refine bodyPost_ret (results_cell_row rfl _ _ R 31 #[.int .i64 0, .int .i64 0, .int .i64 (c.data.size : Int), .bool false, .string ⟨#[]⟩, .slice none 0 0] (0, 0) _ rfl (block_res HB1.out _ _ _ _ _ _) Tryz.underlying31 rfl (by kernel_rfl)) rfl ?_
 exact Out.val rfl rfl (by rw [HZ0.out]; rfl) (HC3.out.res HRl.out HRo.out.1 HRo.out.2 _ _ _ _ _ _) (FrB.res (FrB.kept HK3.out) HRw.out _ _ _ _ _ _)
theorem p_write {w0 w : World} {B : Nat} {c : Cal} {pk v1 v2 v3 : Value} {ev : List Value} {S : Sta} (h : Cb w0 w B c pk v1 v2 v3 ev S) {j k : Nat} (hf : fdP S.opn c.core c.fd = some j) (hj : j < S.opn.length) (hat : atR S.ino (S.opn[j]).2.2 = some k) (hk : k < S.ino.length) {a : Nat} (ho : c.off = (a : Int)) (ha6 : a ≤ 256) (hz6 : 0 < c.data.size) (hq6 : a + c.data.size ≤ 256) :
  Calls Tryz.prog 107 #[.pointer (some ⟨B, 0, none⟩)] w (Out w0 w B c pk v1 v2 v3 ev S (.ok (setD S k hk (strOfNums (writeL (S.ino[k]).data c.data a)), ⟨0, 0, (c.data.size : Int), false, ⟨#[]⟩, []⟩))) := by
 obtain ⟨W1, R, HWR, HKR, HRb, HC1, HRo, HRw, HRl, p, e1, e2, e3, hrd, f1, f3, HR, HV⟩ := prg h
 have HBd : Hid (Bd S) := h.bd
 have HF : Hid (fdP S.opn c.core c.fd = some j ∧ ∃ hj : j < S.opn.length, atR S.ino (S.opn[j]).2.2 = some k) := ⟨hf, hj, hat⟩
 obtain ⟨b1, o1, ae, ce, ha, -⟩ := hrd.sv.ino k hk
 have ho1 : o1 = 0 := by
  obtain ⟨g, hg⟩ := f1 _ ha
  simp only [Addr.mk.injEq, and_true] at hg
  exact hg.2
 subst ho1
 have HA : Hid (p.a1 = some ⟨b1, 0, none⟩) := ha
 have HO : Hid (_) := inf_yes (n := c.off) (by omega)
 have HN : Hid ((decide (0 ≤ (c.data.size : Int)) && decide ((c.data.size : Int) ≤ 256)) = true) := inf_yes (by omega)
 have HO2 : Hid (c.off = (a : Int)) := ho
 have HZ63 : Hid (c.data.size ≤ 9223372036854775807) := by show _ ≤ _; omega
 clear h e1 e2 e3 f1 f3 hrd hf hj hat ha ho
 go_enter Tryz.func107, Tryz.ntmps107
 go_upto_region 1 with fail
 rw [HWR.out.1, HWR.out.2]
 clear HWR
 go_wp2_with fail
 refine (p_file_some HR.out HF.out.1 HF.out.2.1 HF.out.2.2 HA.out).mono ?_
 rintro e w1 ⟨rfl, k1⟩
 rw [Nat.zero_add]
 have HK1 : Hid (Kept [] w w1) := HKR.out.trans k1 (by simp)
 have HC2 : Hid (_) := HC1.out.kept k1
 have HR2 : Hid (_) := HR.out.kept k1
 have HB1 : Hid (w1.heap[R]? = _) := (k1.block _ (lt_of_heap HRb.out) (by simp)).trans HRb.out
 obtain ⟨b2, o2, -, -, ha2, -, -, -, q3, -⟩ := HR2.out.sv.ino k hk
 rw [HA.out] at ha2
 simp only [Option.some.injEq, Addr.mk.injEq, and_true] at ha2
 obtain ⟨hb2, ho2⟩ := ha2
 subst hb2 ho2
 rw [Nat.zero_add] at q3
 obtain ⟨D, hD⟩ : ∃ D, (S.ino[k]).data = D := ⟨_, rfl⟩
 have HD : Hid (D.size ≤ 140737488351232) := by rw [← hD]; exact HBd.out.d1 _ (List.getElem_mem hk)
 rw [hD] at q3
 have HDe : Hid (_) := hD
 clear hD
 clear k1 HR HC1 HRb
 have d3 := HR2.out.c3
 have d7 := HR2.out.c7
 have z63 : c.data.size ≤ 9223372036854775807 := HZ63.out
 go_wp2_with fail
 refine (p_infile c.off w1).mono ?_
 rintro e w2 ⟨rfl, hw⟩
 have hw2 := hw.symm
 subst hw2
 rw [HO.out]
 go_wp2_with fail
 refine (p_infile (c.data.size : Int) w1).mono ?_
 rintro e w2 ⟨rfl, hw⟩
 have hw2 := hw.symm
 subst hw2
 rw [HN.out]
 go_wp2_with fail
 refine (p_if_no 9 _).mono ?_
 rintro e w2 ⟨rfl, hw⟩
 have hw2 := hw.symm
 subst hw2
 rw [HO2.out] at d3
 obtain ⟨q, hq⟩ : ∃ q, a + c.data.size = q := ⟨_, rfl⟩
 have vs : IntKind.i64.wrap ((a : Int) + (c.data.size : Int)) = (q : Int) := by rw [IntKind.wrap_i64]; omega
 have vt : wrap64 ((a : Int) + (c.data.size : Int)) = (q : Int) := by unfold wrap64; omega
 have HQ : Hid (a + c.data.size = q) := hq
 have HI : Hid ((decide (0 ≤ (q : Int)) && decide ((q : Int) ≤ 256)) = true) := inf_yes (by omega)
 have HQ6 : Hid (q ≤ 256 ∧ 0 < c.data.size) := ⟨by omega, hz6⟩
 go_wp2_with fail
 refine (p_infile (q : Int) w1).mono ?_
 rintro e w2 ⟨rfl, hw⟩
 have hw2 := hw.symm
 subst hw2
 rw [HI.out]
 go_wp2_with fail
 refine (p_if_no 5 _).mono ?_
 rintro e w2 ⟨rfl, hw⟩
 have hw2 := hw.symm
 subst hw2
 have z0' : (c.data.size : Int) > 0 := by omega
 have z0'' : (0 : Int) < (c.data.size : Int) := by omega
 have HC : Hid (w1.cell? ⟨b1, k * 4 + 3, none⟩ = some (.string D) ∧ w1.cell? ⟨B, 3, none⟩ = some (.int .i64 (a : Int)) ∧ w1.cell? ⟨B, 7, none⟩ = some (.string c.data)) := ⟨q3, d3, d7⟩
 obtain ⟨mx, hmx⟩ : ∃ mx, max D.size q = mx := ⟨_, rfl⟩
 have mx1 := run_max D.size q
 rw [hmx] at mx1
 have HD2 := HD.out
 have HMx : Hid (mx ≤ 140737488351232 ∧ q ≤ mx) := ⟨by omega, by omega⟩
 have d63 : D.size ≤ 9223372036854775807 := by omega
 have HMe : Hid (max D.size (a + c.data.size) = mx) := by show _ = _; rw [hq]; exact hmx
 have HV1 : Hid (v1 = .slice (some ⟨b1, 0, none⟩) S.ino.length p.c1) := by show _ = _; rw [HV.out.1, HA.out]
 have aq : a < mx := by omega
 have aq1 : ¬ mx = a := by omega
 have aq2 : (0 : Int) ≤ (a : Int) := by omega
 have aq3 : (a : Int) ≤ (mx : Int) := by omega
 clear hmx hq HD2 hz6 hq6 ha6 q3 d3 d7
 go_upto_region 6 with fail
 go_region_held3 (fun w' => w'.cell? ⟨b1, k * 4 + 3, none⟩ = some (.string D) ∧ w'.cell? ⟨B, 3, none⟩ = some (.int .i64 (a : Int)) ∧ w'.cell? ⟨B, 7, none⟩ = some (.string c.data)) (first | exact HC.out | exact z4 | go_keep)
  (first
   | (go_at_call 142; refine (p_sized D mx HMx.out.1 _).mono ?_; rintro e w4 ⟨G, rfl, h4⟩; have HK4 : Hid (Kept [] w1 w4) := (Kept.refl _ _).drew.trans h4.kept (by simp); have z4 := (⟨HK4.out.cell (HC.out.1) (by simp), HK4.out.cell (HC.out.2.1) (by simp), HK4.out.cell (HC.out.2.2) (by simp)⟩ : w4.cell? ⟨b1, k * 4 + 3, none⟩ = some (.string D) ∧ w4.cell? ⟨B, 3, none⟩ = some (.int .i64 (a : Int)) ∧ w4.cell? ⟨B, 7, none⟩ = some (.string c.data)); have HG4 : Hid (_) := h4; clear h4))
 have HS4 : Hid (_) := z4
 clear z4
 -- the copy
 have hGl : (sizedL D mx).length = mx := sizedL_length _ _
 have hcp := run_copy_str (P := Tryz.prog) w4.drew 133 9 3 5 G a (mx - a) (mx - a) c.data _ 5 Tryz.underlying133 sz5 HG4.out.here (by
  have h1 := HMx.out.2
  have h2 := HQ.out
  have h3 : Nat.min c.data.size (mx - a) = c.data.size := Nat.min_eq_left (by omega)
  rw [h3]
  simp only [List.size_toArray, List.length_map, hGl]
  omega)
 have h3 : Nat.min c.data.size (mx - a) = c.data.size := Nat.min_eq_left (by have h1 := HMx.out.2; have h2 := HQ.out; omega)
 rw [h3] at hcp
 have e1 : (((sizedL D mx).map (Value.int .u8)).toArray.toList.take a ++ (c.data.data.toList.map fun b => Value.int .u8 (b.toNat : Int)).take c.data.size ++ ((sizedL D mx).map (Value.int .u8)).toArray.toList.drop (a + c.data.size)) = (writeL D c.data a).map (Value.int .u8) := by
  unfold writeL byI
  rw [HMe.out, List.map_append, List.map_append, List.map_take, List.map_drop, List.map_map]
  have : (c.data.data.toList.map fun b => Value.int .u8 (b.toNat : Int)).length = c.data.size := by simp
  rw [← this, List.take_length]
  rfl
 rw [e1] at hcp
 have hB5 := HG4.out.setRow (writeL D c.data a)
 have hK5 : Kept [] w1 (w4.drew.setRow G ((writeL D c.data a).map (Value.int .u8)).toArray) := by
  have := (HK4.out.drew).setRow (g := G) (Or.inr (by have := HG4.out.new; exact this)) ((writeL D c.data a).map (Value.int .u8)).toArray
  exact this
 have hG5 : (w4.drew.setRow G ((writeL D c.data a).map (Value.int .u8)).toArray).heap[G]? = some (.cells ((writeL D c.data a).map (Value.int .u8)).toArray 5 (0, 0)) := setRow_heap w4.drew G _ _ _ _ HG4.out.here
 obtain ⟨W5, hW5⟩ : ∃ W5, w4.drew.setRow G ((writeL D c.data a).map (Value.int .u8)).toArray = W5 := ⟨_, rfl⟩
 rw [hW5] at hcp hK5 hG5
 have hgi : goInt c.data.size = .int .i64 (c.data.size : Int) := rfl
 rw [hgi] at hcp
 have z5 := (⟨hK5.cell (HC.out.1) (by simp), hK5.cell (HC.out.2.1) (by simp), hK5.cell (HC.out.2.2) (by simp)⟩ : W5.cell? ⟨b1, k * 4 + 3, none⟩ = some (.string D) ∧ W5.cell? ⟨B, 3, none⟩ = some (.int .i64 (a : Int)) ∧ W5.cell? ⟨B, 7, none⟩ = some (.string c.data))
 have HB5 : Hid (Bs w1 W5 G (writeL D c.data a)) := ⟨hK5, HG4.out.new, hG5⟩
 have HK5 : Hid (Kept [] w1 W5) := hK5
 clear e1 hB5 hK5 hG5 hW5 hgi h3 hGl
 go_upto_region 7 with fail
 refine wp_region_held_drew (S := fun w' => w'.cell? ⟨b1, k * 4 + 3, none⟩ = some (.string D) ∧ w'.cell? ⟨B, 3, none⟩ = some (.int .i64 (a : Int)) ∧ w'.cell? ⟨B, 7, none⟩ = some (.string c.data)) (by kernel_rfl) ?_ (fun hHeld => ?_)
 · exact HS4.out
 refine tkA 0 rfl ?_
 refine tkA 1 rfl ?_
 refine tkA 2 rfl ?_
 refine tkA 3 rfl ?_
 refine tkA 4 rfl ?_
 refine tkA 5 rfl ?_
 refine tkA 6 rfl ?_
 refine tkA 7 rfl ?_
 refine tkA 8 rfl ?_
 refine tkA 9 rfl ?_
 refine tkA 10 rfl ?_
 refine tkA 11 rfl ?_
 refine wpAnyH_ready (rs := [12]) (by kernel_rfl) (by simp) ?_
 refine AllReadyH.cons rfl (fun K hK => ?_) AllReadyH.nil
 go_simp
 refine hK.out _ _ ?_ (fun hHeld => ?_)
 · exact z5
 clear hK K
 try simp only [Act.put, List.setIfInBounds_toArray, List.set_cons_zero, List.set_cons_succ, List.getElem_toArray, List.getElem_cons_zero, List.getElem_cons_succ]
 refine wpAnyH_done (by kernel_rfl) ?_ _
 have hcv := HB5.out.conv mx (by rw [writeL_length]; exact HMe.out) mx
 have q5 := z5.1
 have f5 : W5.frozen? ⟨b1, k * 4 + 3, none⟩ = false := by
  have := (HC2.out.kept HK5.out).os.ino
  rw [HV1.out] at this
  exact this.frozenAt _
 clear hcp z5 hHeld
 go_upto_region 9 with fail
 have HC5 : Hid (_) := (HC2.out.kept HK5.out).setDat hk HV1.out (d := strOfNums (writeL D c.data a)) (by rw [strOfNums_size, writeL_length, HMe.out]; exact HMx.out.1)
 have HF5 : Hid (_) := (FrB.kept (B := B) (v1 := v1) (v2 := v2) (v3 := v3) (ev := ev) (HK1.out.trans HK5.out (by simp))).trans (FrB.ino (i := k * 4 + 3) HV1.out (.string (strOfNums (writeL D c.data a))))
 have HRg : Hid (R ≠ b1) := fun e => (HRo.out.1 R (by simp)).1 (by rw [HV1.out, e]; rfl)
 have HB6 : Hid (_) := (block_other (v := .string (strOfNums (writeL D c.data a))) (i := k * 4 + 3) HRg.out).trans ((HK5.out.block _ (lt_of_heap HB1.out) (by simp)).trans HB1.out)
 obtain ⟨W6, hW6⟩ : ∃ W6, W5.setCell ⟨b1, k * 4 + 3, none⟩ (.string (strOfNums (writeL D c.data a))) = W6 := ⟨_, rfl⟩
 rw [hW6] at HC5 HF5 HB6 ⊢
 clear hW6 hcv q5 f5
 obtain ⟨g0, g1, g2, g3, g4, g5⟩ := cz6 HB6.out
 obtain ⟨z0, z1, z2, z3, z4, z5⟩ := fz6 HB6.out
 go_wp2_with fail
 (try simp only [Exit.inBlock, Exit.then])
 refine bodyPost_ret (results_cell_row rfl _ _ R 31 #[.int .i64 0, .int .i64 0, .int .i64 (c.data.size : Int), .bool false, .string ⟨#[]⟩, .slice none 0 0] (0, 0) _ rfl (block_res HB6.out _ _ _ _ _ _) Tryz.underlying31 rfl (by kernel_rfl)) rfl ?_
 exact Out.val (by rw [HDe.out]) rfl rfl (HC5.out.res HRl.out HRo.out.1 HRo.out.2 _ _ _ _ _ _) (FrB.res HF5.out HRw.out _ _ _ _ _ _)
end Go.Proofs.YtffncojcnbhblaaGreatDoor
