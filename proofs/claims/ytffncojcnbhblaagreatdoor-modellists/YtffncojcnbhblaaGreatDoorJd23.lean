/-
  Joined of my texts Cs Fb St Ln.
-/
import Derived.Test.YtffncojcnbhblaaGreatDoorJd21
import Derived.Test.YtffncojcnbhblaaGreatDoorJd20
import Derived.Test.YtffncojcnbhblaaGreatDoorTk
set_option linter.unusedVariables false
set_option linter.unusedSimpArgs false
set_option maxRecDepth 100000
set_option maxHeartbeats 8000000
namespace Go.Proofs.YtffncojcnbhblaaGreatDoor
open Go.RowKit
@[reducible] def shutS (S : Sta) (j : Nat) : Sta := ⟨S.ino, S.opn.eraseIdx j, S.made⟩
def freeN (D : List Ds) (c : Int) : Nat → List Int
 | 0 => []
 | n + 1 => if (fdP D c (n : Int)).isNone then freeN D c n ++ [(n : Int)] else freeN D c n
def freeR (D : List Ds) (c : Int) : List Int := freeN D c 4
theorem freeN_le (D : List Ds) (c : Int) : ∀ n, (freeN D c n).length ≤ n
 | 0 => Nat.le_refl _
 | n + 1 => by
  have := freeN_le D c n
  unfold freeN
  split
  · simp only [List.length_append, List.length_cons, List.length_nil]; omega
  · omega
theorem p_free {w : World} {B : Nat} {c : Cal} {pk : Value} {p : Pl} {S : Sta} (h : Rd w B c pk p S) :
  Calls Tryz.prog 135 #[.pointer (some ⟨B, 0, none⟩)] w fun e w' => ∃ v, e = .returned v ∧ Own w' w.heap.size v (freeR S.opn c.core) ∧ Kept [] w w' := by
 have HR : Hid (_) := h
 clear h
 go_enter Tryz.func135, Tryz.ntmps135
 go_wp2_with fail
 go_loopw [3, 5] (fun u i wr => ∃ n : Nat, i = .int .i64 (n : Int) ∧ n ≤ 4 ∧ ∃ a m k, u = .slice a m k ∧ Hid (Kept [] w wr ∧ Own wr w.heap.size (.slice a m k) (freeN S.opn c.core n))) (fun _ i _ => (4 - intOf i).toNat)
 case atStart => exact ⟨0, rfl, by omega, _, _, _, rfl, Kept.refl _ _, Own.nil _ _⟩
 case round =>
  obtain ⟨n, rfl, hn, a, m, k, rfl, HJ⟩ := hrel
  by_cases hlt : n < 4
  ·
   have i0 : (0 : Int) ≤ (n : Int) := by omega
   have i1 : (n : Int) < 4 := by omega
   have HR1 : Hid (_) := HR.out.kept HJ.out.1
   go_wp2_with fail
   refine (p_fd HR1.out (n : Int)).mono ?_
   rintro e w1 ⟨rfl, k1⟩
   have HK1 : Hid (Kept [] w w1) := HJ.out.1.trans k1 (by simp)
   have HO1 : Hid (Own w1 w.heap.size (.slice a m k) (freeN S.opn c.core n)) := HJ.out.2.kept k1
   clear k1 HJ HR1
   rcases hf : fdP S.opn c.core (n : Int) with _ | j
   ·
    have HN : Hid (freeN S.opn c.core (n + 1) = freeN S.opn c.core n ++ [(n : Int)]) := by show _ = _; rw [freeN, hf]; rfl
    have hle := freeN_le S.opn c.core n
    obtain ⟨v', w', hr, hk6, ho6⟩ := own_append HK1.out HO1.out (n : Int) (by omega) 25
    have HAp : Hid (_) := hr
    have HO6 : Hid (Kept [] w w' ∧ Own w' w.heap.size v' (freeN S.opn c.core (n + 1))) := ⟨hk6, by rw [HN.out]; exact ho6⟩
    obtain ⟨a2, m2, k2, hv2⟩ : ∃ a m k, v' = .slice a m k := by
     rcases ho6.form with ⟨e, -⟩ | ⟨g, cap, cur, e, -⟩
     · exact ⟨_, _, _, e⟩
     · exact ⟨_, _, _, e⟩
    subst hv2
    clear hr hk6 ho6 hf hle HN HK1 HO1
    unfold ixI
    go_wp2_with (first
     | (at_builtin; refine wpList_append_run _ rfl _ _ 25 25 rfl _ _ rfl rfl _ _ HAp.out ?_))
    go_roundw
    case rel => exact ⟨n + 1, by go_num, by omega, _, _, _, rfl, HO6.out⟩
    case measure => simp [intOf]; omega
   ·
    have HN : Hid (freeN S.opn c.core (n + 1) = freeN S.opn c.core n) := by show _ = _; rw [freeN, hf]; rfl
    have HO6 : Hid (Kept [] w w1 ∧ Own w1 w.heap.size (.slice a m k) (freeN S.opn c.core (n + 1))) := ⟨HK1.out, by rw [HN.out]; exact HO1.out⟩
    have j0 : ¬ (j : Int) < 0 := by omega
    clear hf HN HK1 HO1
    unfold ixI
    go_wp2_with fail
    go_roundw
    case rel => exact ⟨n + 1, by go_num, by omega, _, _, _, rfl, HO6.out⟩
    case measure => simp [intOf]; omega
  ·
   have i1 : ¬ (n : Int) < 4 := by omega
   have h4 : n = 4 := by omega
   subst h4
   go_wp2_with fail
   go_ret
   exact ⟨_, rfl, HJ.out.2, HJ.out.1⟩
theorem p_stat_bad {w0 w : World} {B : Nat} {c : Cal} {pk v1 v2 v3 : Value} {ev : List Value} {S : Sta} (h : Cb w0 w B c pk v1 v2 v3 ev S) {num code : Int} (hf : findR S.ino c.path = (num, code)) (hc : code ≠ 0) :
  Calls Tryz.prog 115 #[.pointer (some ⟨B, 0, none⟩)] w (Out w0 w B c pk v1 v2 v3 ev S (.error code)) := by
 obtain ⟨W1, R, HWR, HKR, HRb, HC1, HRo, HRw, HRl, p, e1, e2, e3, hrd, f1, f3, HR, HV⟩ := prg h
 have HBd : Hid (Bd S) := h.bd
 have HF : Hid (_) := hf
 have HE : Hid (_) := hc
 have d5 := hrd.c5
 clear h e1 e2 e3 f1 f3 hrd hf hc
 go_enter Tryz.func115, Tryz.ntmps115
 go_upto_region 1 with fail
 rw [HWR.out.1, HWR.out.2]
 clear HWR
 go_wp2_with fail
 refine (found_bad HR.out c.path HF.out HE.out).mono ?_
 rintro e w1 ⟨rfl, k1⟩
 exact ⟨rfl, Out.err rfl (HC1.out.kept k1) (FrB.kept (HKR.out.trans k1 (by simp)))⟩
theorem p_list_bad {w0 w : World} {B : Nat} {c : Cal} {pk v1 v2 v3 : Value} {ev : List Value} {S : Sta} (h : Cb w0 w B c pk v1 v2 v3 ev S) {num code : Int} (hf : findR S.ino c.path = (num, code)) (hc : code ≠ 0) :
  Calls Tryz.prog 114 #[.pointer (some ⟨B, 0, none⟩)] w (Out w0 w B c pk v1 v2 v3 ev S (.error code)) := by
 obtain ⟨W1, R, HWR, HKR, HRb, HC1, HRo, HRw, HRl, p, e1, e2, e3, hrd, f1, f3, HR, HV⟩ := prg h
 have HBd : Hid (Bd S) := h.bd
 have HF : Hid (_) := hf
 have HE : Hid (_) := hc
 have d5 := hrd.c5
 clear h e1 e2 e3 f1 f3 hrd hf hc
 go_enter Tryz.func114, Tryz.ntmps114
 go_upto_region 1 with fail
 rw [HWR.out.1, HWR.out.2]
 clear HWR
 go_wp2_with fail
 refine (found_bad HR.out c.path HF.out HE.out).mono ?_
 rintro e w1 ⟨rfl, k1⟩
 exact ⟨rfl, Out.err rfl (HC1.out.kept k1) (FrB.kept (HKR.out.trans k1 (by simp)))⟩
theorem p_open_bad {w0 w : World} {B : Nat} {c : Cal} {pk v1 v2 v3 : Value} {ev : List Value} {S : Sta} (h : Cb w0 w B c pk v1 v2 v3 ev S) {num code : Int} (hf : findR S.ino c.path = (num, code)) (hc : code ≠ 0) :
  Calls Tryz.prog 104 #[.pointer (some ⟨B, 0, none⟩)] w (Out w0 w B c pk v1 v2 v3 ev S (.error code)) := by
 obtain ⟨W1, R, HWR, HKR, HRb, HC1, HRo, HRw, HRl, p, e1, e2, e3, hrd, f1, f3, HR, HV⟩ := prg h
 have HBd : Hid (Bd S) := h.bd
 have HF : Hid (_) := hf
 have HE : Hid (_) := hc
 have d5 := hrd.c5
 clear h e1 e2 e3 f1 f3 hrd hf hc
 go_enter Tryz.func104, Tryz.ntmps104
 go_upto_region 1 with fail
 rw [HWR.out.1, HWR.out.2]
 clear HWR
 go_wp2_with fail
 refine (found_bad HR.out c.path HF.out HE.out).mono ?_
 rintro e w1 ⟨rfl, k1⟩
 exact ⟨rfl, Out.err rfl (HC1.out.kept k1) (FrB.kept (HKR.out.trans k1 (by simp)))⟩
theorem cell_res {w : World} {R Z i : Nat} {a b c d e f : Value} (h : Z ≠ R) : (laidR w R a b c d e f).cell? ⟨Z, i, none⟩ = w.cell? ⟨Z, i, none⟩ := by
 unfold laidR
 rw [cellO h, cellO h, cellO h, cellO h, cellO h, cellO h]
theorem p_stat {w0 w : World} {B : Nat} {c : Cal} {pk v1 v2 v3 : Value} {ev : List Value} {S : Sta} (h : Cb w0 w B c pk v1 v2 v3 ev S) {num : Int} {k : Nat} (hf : findR S.ino c.path = (num, 0)) (hat : atR S.ino num = some k) (hk : k < S.ino.length) :
  Calls Tryz.prog 115 #[.pointer (some ⟨B, 0, none⟩)] w (Out w0 w B c pk v1 v2 v3 ev S (.ok (S, ⟨0, 0, ((S.ino[k]).data.size : Int), (S.ino[k]).dir, ⟨#[]⟩, []⟩))) := by
 obtain ⟨W1, R, HWR, HKR, HRb, HC1, HRo, HRw, HRl, p, e1, e2, e3, hrd, f1, f3, HR, HV⟩ := prg h
 have HBd : Hid (Bd S) := h.bd
 have HF : Hid (findR S.ino c.path = (num, 0) ∧ atR S.ino num = some k) := ⟨hf, hat⟩
 obtain ⟨b1, o1, ae, ce, ha, -⟩ := hrd.sv.ino k hk
 have ho1 : o1 = 0 := by
  obtain ⟨g, hg⟩ := f1 _ ha
  simp only [Addr.mk.injEq, and_true] at hg
  exact hg.2
 subst ho1
 have HA : Hid (p.a1 = some ⟨b1, 0, none⟩) := ha
 have d5 := hrd.c5
 clear h e1 e2 e3 f1 f3 hrd hf hat ha
 go_enter Tryz.func115, Tryz.ntmps115
 go_upto_region 1 with fail
 rw [HWR.out.1, HWR.out.2]
 clear HWR
 go_wp2_with fail
 refine (found_ok HR.out c.path HF.out.1 HF.out.2 HA.out).mono ?_
 rintro e w1 ⟨rfl, k1⟩
 rw [Nat.zero_add]
 have HK1 : Hid (Kept [] w w1) := HKR.out.trans k1 (by simp)
 have HC2 : Hid (_) := HC1.out.kept k1
 have HR2 : Hid (_) := HR.out.kept k1
 have HB1 : Hid (w1.heap[R]? = _) := (k1.block _ (lt_of_heap HRb.out) (by simp)).trans HRb.out
 obtain ⟨b2, o2, ae2, ce2, ha2, q0, q1, q2, q3, q4, q5, q6⟩ := HR2.out.sv.ino k hk
 rw [HA.out] at ha2
 simp only [Option.some.injEq, Addr.mk.injEq, and_true] at ha2
 obtain ⟨hb2, ho2⟩ := ha2
 subst hb2 ho2
 rw [Nat.zero_add] at q0 q1 q2 q3
 obtain ⟨D, hD⟩ : ∃ D, (S.ino[k]).data = D := ⟨_, rfl⟩
 have HD : Hid (D.size ≤ 140737488351232) := by rw [← hD]; exact HBd.out.d1 _ (List.getElem_mem hk)
 rw [hD] at q3
 have HDe : Hid (_) := hD
 obtain ⟨di, hdi⟩ : ∃ di, (S.ino[k]).dir = di := ⟨_, rfl⟩
 rw [hdi] at q1
 have HDi : Hid (_) := hdi
 obtain ⟨nu, hnu⟩ : ∃ nu, (S.ino[k]).num = nu := ⟨_, rfl⟩
 rw [hnu] at q0
 have HNu : Hid (_) := hnu
 obtain ⟨E, hE⟩ : ∃ E, (S.ino[k]).ents = E := ⟨_, rfl⟩
 rw [hE] at q2 q4 q5
 have HEe : Hid (_) := hE
 have HEn : Hid (EntA w1 ae2 E) := q4
 have HV1 : Hid (v1 = .slice (some ⟨b1, 0, none⟩) S.ino.length p.c1) := by show _ = _; rw [HV.out.1, HA.out]
 have HRg : Hid (R ≠ b1) := fun e => (HRo.out.1 R (by simp)).1 (by rw [HV1.out, e]; rfl)
 clear hD hdi hnu hE q4 q5 q6
 clear k1 HR HC1 HRb d5
 have HC : Hid (w1.cell? ⟨b1, k * 4 + 1, none⟩ = some (.bool di) ∧ w1.cell? ⟨b1, k * 4 + 3, none⟩ = some (.string D)) := ⟨q1, q3⟩
 have d63 : D.size ≤ 9223372036854775807 := by have := HD.out; omega
 have HSt : Hid (∀ (W : World) (a b c d e f : Value), (W.cell? ⟨b1, k * 4 + 1, none⟩ = some (.bool di) ∧ W.cell? ⟨b1, k * 4 + 3, none⟩ = some (.string D)) → (((laidR W R a b c d e f).drew).cell? ⟨b1, k * 4 + 1, none⟩ = some (.bool di) ∧ ((laidR W R a b c d e f).drew).cell? ⟨b1, k * 4 + 3, none⟩ = some (.string D))) := fun W a b c d e f hW => by rw [World.cell?_drew, World.cell?_drew, cell_res (Ne.symm HRg.out), cell_res (Ne.symm HRg.out)]; exact hW
 obtain ⟨g0, g1, g2, g3, g4, g5⟩ := cz6 HB1.out
 obtain ⟨z0, z1, z2, z3, z4, z5⟩ := fz6 HB1.out
 clear q0 q1 q2 q3
 go_upto_region 2 with fail
 refine wp_region_held_drew (S := fun w' => w'.cell? ⟨b1, k * 4 + 1, none⟩ = some (.bool di) ∧ w'.cell? ⟨b1, k * 4 + 3, none⟩ = some (.string D)) (by kernel_rfl) ?_ (fun hHeld => ?_)
 · exact HC.out
 refine tkA 0 rfl ?_
 refine tkA 1 rfl ?_
 refine tkA 2 rfl ?_
 refine tkA 3 rfl ?_
 refine tkA 4 rfl ?_
 refine tkA 5 rfl ?_
 refine tkA 6 rfl ?_
 refine tkA 7 rfl ?_
 refine tkA 8 rfl ?_
 refine tkA 9 rfl ?_
 refine wpAnyH_ready (rs := [10]) (by kernel_rfl) (by simp) ?_
 refine AllReadyH.cons rfl (fun K hK => ?_) AllReadyH.nil
 go_simp
 refine hK.out _ _ ?_ (fun hHeld => ?_)
 · exact HSt.out w1 _ _ _ _ _ _ HC.out
 clear hK K
 try simp only [Act.put, List.setIfInBounds_toArray, List.set_cons_zero, List.set_cons_succ, List.getElem_toArray, List.getElem_cons_zero, List.getElem_cons_succ]
 refine wpAnyH_done (by kernel_rfl) ?_ _
 clear hHeld HSt g0 g1 g2 g3 g4 g5 z0 z1 z2 z3 z4 z5
 obtain ⟨W8, hW8⟩ : ∃ W8, (laidR w1 R (.int .i64 0) (.int .i64 0) (.int .i64 (D.size : Int)) (.bool di) (.string ⟨#[]⟩) (.slice none 0 0)).drew = W8 := ⟨_, rfl⟩
 have HB8 : Hid (W8.heap[R]? = some (.cells #[.int .i64 0, .int .i64 0, .int .i64 (D.size : Int), .bool di, .string ⟨#[]⟩, .slice none 0 0] 31 (0, 0))) := by rw [← hW8]; exact block_resd HB1.out (.int .i64 0) (.int .i64 0) (.int .i64 (D.size : Int)) (.bool di) (.string ⟨#[]⟩) (.slice none 0 0)
 have HC8 : Hid (_) := (HC2.out.res HRl.out HRo.out.1 HRo.out.2 (.int .i64 0) (.int .i64 0) (.int .i64 (D.size : Int)) (.bool di) (.string ⟨#[]⟩) (.slice none 0 0)).kept (Kept.refl _ _).drew
 have HF8 : Hid (FrB B w (laidR w1 R (.int .i64 0) (.int .i64 0) (.int .i64 (D.size : Int)) (.bool di) (.string ⟨#[]⟩) (.slice none 0 0)).drew v1 v2 v3 ev v1 v2 v3 ev) := (FrB.res (FrB.kept HK1.out) HRw.out (.int .i64 0) (.int .i64 0) (.int .i64 (D.size : Int)) (.bool di) (.string ⟨#[]⟩) (.slice none 0 0)).trans (FrB.kept (Kept.refl _ _).drew)
 rw [hW8] at HC8 HF8 ⊢
 clear hW8
 go_wp2_with fail
 (try simp only [Exit.inBlock, Exit.then])
 refine bodyPost_ret (results_cell_row rfl _ _ R 31 #[.int .i64 0, .int .i64 0, .int .i64 (D.size : Int), .bool di, .string ⟨#[]⟩, .slice none 0 0] (0, 0) _ rfl HB8.out Tryz.underlying31 rfl (by kernel_rfl)) rfl ?_
 exact Out.val (by rw [HDe.out, HDi.out]) rfl rfl HC8.out HF8.out
theorem p_list_file {w0 w : World} {B : Nat} {c : Cal} {pk v1 v2 v3 : Value} {ev : List Value} {S : Sta} (h : Cb w0 w B c pk v1 v2 v3 ev S) {num : Int} {k : Nat} (hf : findR S.ino c.path = (num, 0)) (hat : atR S.ino num = some k) (hk : k < S.ino.length) (hd : (S.ino[k]).dir = false) :
  Calls Tryz.prog 114 #[.pointer (some ⟨B, 0, none⟩)] w (Out w0 w B c pk v1 v2 v3 ev S (.error 7)) := by
 obtain ⟨W1, R, HWR, HKR, HRb, HC1, HRo, HRw, HRl, p, e1, e2, e3, hrd, f1, f3, HR, HV⟩ := prg h
 have HBd : Hid (Bd S) := h.bd
 have HF : Hid (findR S.ino c.path = (num, 0) ∧ atR S.ino num = some k) := ⟨hf, hat⟩
 obtain ⟨b1, o1, ae, ce, ha, -⟩ := hrd.sv.ino k hk
 have ho1 : o1 = 0 := by
  obtain ⟨g, hg⟩ := f1 _ ha
  simp only [Addr.mk.injEq, and_true] at hg
  exact hg.2
 subst ho1
 have HA : Hid (p.a1 = some ⟨b1, 0, none⟩) := ha
 have d5 := hrd.c5
 have HDt : Hid (_) := hd
 clear h e1 e2 e3 f1 f3 hrd hf hat ha hd
 go_enter Tryz.func114, Tryz.ntmps114
 go_upto_region 1 with fail
 rw [HWR.out.1, HWR.out.2]
 clear HWR
 go_wp2_with fail
 refine (found_ok HR.out c.path HF.out.1 HF.out.2 HA.out).mono ?_
 rintro e w1 ⟨rfl, k1⟩
 rw [Nat.zero_add]
 have HK1 : Hid (Kept [] w w1) := HKR.out.trans k1 (by simp)
 have HC2 : Hid (_) := HC1.out.kept k1
 have HR2 : Hid (_) := HR.out.kept k1
 have HB1 : Hid (w1.heap[R]? = _) := (k1.block _ (lt_of_heap HRb.out) (by simp)).trans HRb.out
 obtain ⟨b2, o2, ae2, ce2, ha2, q0, q1, q2, q3, q4, q5, q6⟩ := HR2.out.sv.ino k hk
 rw [HA.out] at ha2
 simp only [Option.some.injEq, Addr.mk.injEq, and_true] at ha2
 obtain ⟨hb2, ho2⟩ := ha2
 subst hb2 ho2
 rw [Nat.zero_add] at q0 q1 q2 q3
 obtain ⟨D, hD⟩ : ∃ D, (S.ino[k]).data = D := ⟨_, rfl⟩
 have HD : Hid (D.size ≤ 140737488351232) := by rw [← hD]; exact HBd.out.d1 _ (List.getElem_mem hk)
 rw [hD] at q3
 have HDe : Hid (_) := hD
 obtain ⟨di, hdi⟩ : ∃ di, (S.ino[k]).dir = di := ⟨_, rfl⟩
 rw [hdi] at q1
 have HDi : Hid (_) := hdi
 obtain ⟨nu, hnu⟩ : ∃ nu, (S.ino[k]).num = nu := ⟨_, rfl⟩
 rw [hnu] at q0
 have HNu : Hid (_) := hnu
 obtain ⟨E, hE⟩ : ∃ E, (S.ino[k]).ents = E := ⟨_, rfl⟩
 rw [hE] at q2 q4 q5
 have HEe : Hid (_) := hE
 have HEn : Hid (EntA w1 ae2 E) := q4
 have HV1 : Hid (v1 = .slice (some ⟨b1, 0, none⟩) S.ino.length p.c1) := by show _ = _; rw [HV.out.1, HA.out]
 have HRg : Hid (R ≠ b1) := fun e => (HRo.out.1 R (by simp)).1 (by rw [HV1.out, e]; rfl)
 clear hD hdi hnu hE q4 q5 q6
 clear k1 HR HC1 HRb d5
 have hdt : di = false := by rw [← HDi.out]; exact HDt.out
 subst hdt
 go_wp2_with fail
 refine (p_if 7 (by decide) w1).mono ?_
 rintro e w2 ⟨rfl, hw⟩
 subst hw
 exact ⟨rfl, Out.err rfl HC2.out (FrB.kept HK1.out)⟩
theorem p_list_of {w0 w : World} {B : Nat} {c : Cal} {pk v1 v2 v3 : Value} {ev : List Value} {S : Sta} (h : Cb w0 w B c pk v1 v2 v3 ev S) {num : Int} {k : Nat} (hf : findR S.ino c.path = (num, 0)) (hat : atR S.ino num = some k) (hk : k < S.ino.length) (hd : (S.ino[k]).dir = true) (hs : (S.ino[k]).ents.length ≤ 900000) :
  Calls Tryz.prog 114 #[.pointer (some ⟨B, 0, none⟩)] w (Out w0 w B c pk v1 v2 v3 ev S (.ok (S, ⟨0, 0, 0, false, ⟨#[]⟩, (S.ino[k]).ents.map Prod.fst⟩))) := by
 obtain ⟨W1, R, HWR, HKR, HRb, HC1, HRo, HRw, HRl, p, e1, e2, e3, hrd, f1, f3, HR, HV⟩ := prg h
 have HBd : Hid (Bd S) := h.bd
 have HF : Hid (findR S.ino c.path = (num, 0) ∧ atR S.ino num = some k) := ⟨hf, hat⟩
 obtain ⟨b1, o1, ae, ce, ha, -⟩ := hrd.sv.ino k hk
 have ho1 : o1 = 0 := by
  obtain ⟨g, hg⟩ := f1 _ ha
  simp only [Addr.mk.injEq, and_true] at hg
  exact hg.2
 subst ho1
 have HA : Hid (p.a1 = some ⟨b1, 0, none⟩) := ha
 have d5 := hrd.c5
 have HDt : Hid (_) := hd
 have HS6 : Hid (_) := hs
 clear h e1 e2 e3 f1 f3 hrd hf hat ha hd hs
 go_enter Tryz.func114, Tryz.ntmps114
 go_upto_region 1 with fail
 rw [HWR.out.1, HWR.out.2]
 clear HWR
 go_wp2_with fail
 refine (found_ok HR.out c.path HF.out.1 HF.out.2 HA.out).mono ?_
 rintro e w1 ⟨rfl, k1⟩
 rw [Nat.zero_add]
 have HK1 : Hid (Kept [] w w1) := HKR.out.trans k1 (by simp)
 have HC2 : Hid (_) := HC1.out.kept k1
 have HR2 : Hid (_) := HR.out.kept k1
 have HB1 : Hid (w1.heap[R]? = _) := (k1.block _ (lt_of_heap HRb.out) (by simp)).trans HRb.out
 obtain ⟨b2, o2, ae2, ce2, ha2, q0, q1, q2, q3, q4, q5, q6⟩ := HR2.out.sv.ino k hk
 rw [HA.out] at ha2
 simp only [Option.some.injEq, Addr.mk.injEq, and_true] at ha2
 obtain ⟨hb2, ho2⟩ := ha2
 subst hb2 ho2
 rw [Nat.zero_add] at q0 q1 q2 q3
 obtain ⟨D, hD⟩ : ∃ D, (S.ino[k]).data = D := ⟨_, rfl⟩
 have HD : Hid (D.size ≤ 140737488351232) := by rw [← hD]; exact HBd.out.d1 _ (List.getElem_mem hk)
 rw [hD] at q3
 have HDe : Hid (_) := hD
 obtain ⟨di, hdi⟩ : ∃ di, (S.ino[k]).dir = di := ⟨_, rfl⟩
 rw [hdi] at q1
 have HDi : Hid (_) := hdi
 obtain ⟨nu, hnu⟩ : ∃ nu, (S.ino[k]).num = nu := ⟨_, rfl⟩
 rw [hnu] at q0
 have HNu : Hid (_) := hnu
 obtain ⟨E, hE⟩ : ∃ E, (S.ino[k]).ents = E := ⟨_, rfl⟩
 rw [hE] at q2 q4 q5
 have HEe : Hid (_) := hE
 have HEn : Hid (EntA w1 ae2 E) := q4
 have HV1 : Hid (v1 = .slice (some ⟨b1, 0, none⟩) S.ino.length p.c1) := by show _ = _; rw [HV.out.1, HA.out]
 have HRg : Hid (R ≠ b1) := fun e => (HRo.out.1 R (by simp)).1 (by rw [HV1.out, e]; rfl)
 clear hD hdi hnu hE q4 q5 q6
 clear k1 HR HC1 HRb d5
 have hdt : di = true := by rw [← HDi.out]; exact HDt.out
 subst hdt
 go_wp2_with fail
 refine (p_if_no 7 w1).mono ?_
 rintro e w2 ⟨rfl, hw⟩
 have hw2 := hw.symm
 subst hw2
 have hEl : E.length ≤ 900000 := by rw [← HEe.out]; exact HS6.out
 have HNm : Hid (∀ e ∈ E, e.1.size ≤ 140737488351232) := by rw [← HEe.out]; exact HBd.out.e1 _ (List.getElem_mem hk)
 go_wp2_with fail
 clear q0 q1 q2 q3
 go_loopw [4, 25] (fun u i wr => ∃ n : Nat, i = .int .i64 (n : Int) ∧ n ≤ E.length ∧ ∃ a m k, u = .slice a m k ∧ Hid (Kept [] w1 wr ∧ Sr wr w1.heap.size (.slice a m k) ((E.take n).map Prod.fst))) (fun _ i _ => (E.length - intOf i).toNat)
 case atStart => exact ⟨0, rfl, by omega, _, _, _, rfl, Kept.refl _ _, Sr.nil _ _⟩
 case round =>
  obtain ⟨n, rfl, hn, a, m, kk, rfl, HJ⟩ := hrel
  by_cases hlt : n < E.length
  ·
   have i0 : (0 : Int) ≤ (n : Int) := by omega
   have i1 : (n : Int) < (E.length : Int) := by omega
   obtain ⟨b5, o5, hb5, h1, h2⟩ := (HEn.out.kept HJ.out.1) n hlt
   subst hb5
   have HTk : Hid ((E.take (n + 1)).map Prod.fst = (E.take n).map Prod.fst ++ [(E[n]).1]) := by show _ = _; rw [List.take_succ_eq_append_getElem hlt, List.map_append]; rfl
   have HTz : Hid ((E[n]).1.size ≤ 140737488351232) := HNm.out _ (List.getElem_mem hlt)
   obtain ⟨t, ht⟩ : ∃ t, (E[n]).1 = t := ⟨_, rfl⟩
   rw [ht] at h1 HTk HTz
   generalize (E[n]).2 = z at h2
   clear ht
   obtain ⟨W3, Z, HWZ, HK3, e0, e1⟩ := box2 wr (.string t) (.int .i64 z) 64
   have HKW : Hid (Kept [] w1 W3) := HJ.out.1.trans HK3.out (by simp)
   have HS3 : Hid (Sr W3 w1.heap.size (.slice a m kk) ((E.take n).map Prod.fst)) := Sr.kept HJ.out.2 HK3.out
   go_upto_region 7 with fail
   rw [HWZ.out.1, HWZ.out.2]
   clear HWZ h1 h2 HJ HK3
   go_wp2_with fail
   refine (s_clone t W3 HTz.out).mono ?_
   rintro e w5 ⟨rfl, k5⟩
   have HK5 : Hid (Kept [] w1 w5) := HKW.out.trans k5 (by simp)
   have hlen : ((E.take n).map Prod.fst).length ≤ E.length := by rw [List.length_map, List.length_take]; omega
   have HS5 : Sr w5 w1.heap.size (.slice a m kk) ((E.take n).map Prod.fst) := Sr.kept HS3.out k5
   obtain ⟨v', w', hr, hs6, hk6⟩ := append_text HS5 HK5.out.size t (by omega) 29
   have HAp : Hid (_) := hr
   have HO6 : Hid (Kept [] w1 w' ∧ Sr w' w1.heap.size v' ((E.take (n + 1)).map Prod.fst)) := ⟨kept_of_own (H := 0) HK5.out hk6 (fun q hq => (Sr.block HS5 q hq).1), by rw [HTk.out]; exact hs6⟩
   obtain ⟨a2, c2, hv2, -⟩ := Sr.read hs6
   obtain ⟨l2, hl2⟩ : ∃ l2, ((E.take n).map Prod.fst ++ [t]).length = l2 := ⟨_, rfl⟩
   rw [hl2] at hv2
   subst hv2
   clear hl2 hr hs6 hk6 k5 HTk HKW HS3 HS5 HK5 e0 e1
   go_wp2_with (first
    | (at_builtin; refine wpList_append_run _ rfl _ _ 29 29 rfl _ _ rfl rfl _ _ HAp.out ?_))
   go_roundw
   case rel => exact ⟨n + 1, by go_num, by omega, _, _, _, rfl, HO6.out⟩
   case measure => simp [intOf]; omega
  ·
   have i1 : ¬ (n : Int) < (E.length : Int) := by omega
   have HN : Hid (Sr wr w1.heap.size (.slice a m kk) (E.map Prod.fst)) := by
    have := HJ.out.2
    rw [List.take_of_length_le (by omega)] at this
    exact this
   have HK3 : Hid (Kept [] w1 wr) := HJ.out.1
   have HC3 : Hid (_) := HC2.out.kept HJ.out.1
   have HB3 : Hid (wr.heap[R]? = _) := (HJ.out.1.block _ (lt_of_heap HB1.out) (by simp)).trans HB1.out
   have HOf : Hid (∀ b, (Value.slice a m kk).ownBlock = some b → Off [b] v1 v2 v3 ev) := fun b hb => (HC2.out.new (Sr.block HN.out b hb).1).1
   have HR1 : Hid (R < w1.heap.size) := lt_of_heap HB1.out
   clear HJ
   obtain ⟨g0, g1, g2, g3, g4, g5⟩ := cz6 HB3.out
   obtain ⟨z0, z1, z2, z3, z4, z5⟩ := fz6 HB3.out
   go_wp2_with fail
   (try simp only [Exit.inBlock, Exit.then])
   refine bodyPost_ret (results_cell_row rfl _ _ R 31 #[.int .i64 0, .int .i64 0, .int .i64 0, .bool false, .string ⟨#[]⟩, .slice a m kk] (0, 0) _ rfl (block_res HB3.out _ _ _ _ _ _) Tryz.underlying31 rfl (by kernel_rfl)) rfl ?_
   have := Oks.laid (A := ⟨0, 0, 0, false, ⟨#[]⟩, E.map Prod.fst⟩) HK1.out HRl.out HRw.out HR1.out HRo.out HN.out HOf.out HC3.out (FrB.kept HK3.out) (.int .i64 0) (.int .i64 0) (.int .i64 0) (.bool false) (.string ⟨#[]⟩) (.slice a m kk)
   rw [← HEe.out] at this
   exact this
theorem Cb.numAt {w0 w : World} {B : Nat} {c : Cal} {pk v1 v2 v3 : Value} {ev : List Value} {S : Sta} (h : Cb w0 w B c pk v1 v2 v3 ev S) {g c1 : Nat} (hv1 : v1 = .slice (some ⟨g, 0, none⟩) S.ino.length c1) {j : Nat} (hj : j < S.ino.length) : w.cell? ⟨g, j * 4, none⟩ = some (.int .i64 (S.ino[j]).num) := by
 have h2 := h.os.ino
 have hv : j < ev.length := by rw [h.os.evl]; exact hj
 rw [hv1] at h2
 rw [h2.cellAt (j * 4) (by omega), (inoC_get hj hv).1]
end Go.Proofs.YtffncojcnbhblaaGreatDoor
