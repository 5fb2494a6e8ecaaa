/-
  DirMany: for all numbers: all buckets together take Buckets times MaxSlots names at most; each name that was taken is found, listed once and removed (P9.1); no condition beyond the row's own.
-/
import Derived.Test.YtnbbcbjfejdceaaDoorRows
import Derived.Test.YtnbbcbjfejdceaaDoorCards
import Derived.Test.YtnbbcbjfejdceaaDoorTie
import Derived.Test.YtnbbcbjfejdceaaDoorLaid
import Derived.Test.YtnbbcbjfejdceaaDoorMy
import Derived.WalkKit
import Derived.ProofKit
import Derived.OpenShut
import Derived.ShutString
import Derived.ChangeOld
import Derived.Below
import Derived.Deep.Slices
import Derived.LaidMore
import Derived.Lay
import Derived.SizedLaws
import Derived.Laws.BytesArg
import Derived.Stop.Joined
import Derived.SevenTiedAt
namespace Go.Proofs.YtnbbcbjfejdceaaDoor.dirMany
open Go.ChangeShapes Go.WideShapes Go.ChangeAt Go.RowKit
open Go.ChangeMaps (open_string shut_string)
set_option linter.unusedVariables false

set_option maxRecDepth 100000 in
set_option maxHeartbeats 16000000 in
theorem main (v gone : Int) (o c0 : Nat) (w : World) (hT : Tab w) (ho : o < 256) (hc0 : c0 < 4) (hv : bits .and .i64 v 255 = (o : Int)) (hg : bits .and .i64 gone 3 = (c0 : Int)) :
    Calls Tryd.prog 7 #[.int .i64 v, .int .i64 gone] w fun e w' => e = .returned (.bool true) ∧ Kept [] w w' := by
  have HV : Hid (_ ∧ _) := ⟨hv, hg⟩
  have HT0 : Hid (Tab w) := hT
  clear hT hv hg
  have hmk : ∀ W : World, (Instr.makeSlice 48 (.int .i64 8) (.int .i64 8)).run Tryd.prog W = .ok (.slice (some ⟨W.heap.size, 0, none⟩) 8 8) (W.alloc (.cells (i64s (List.replicate 8 0)) 3)) := fun W => make_words 8 (by omega) W
  go_enter Tryd.func7, Tryd.ntmps7
  go_wp2_with fail
  refine (awake_dir w HT0.out).mono ?_
  rintro e w1 ⟨rfl, hk1⟩
  have HK : Hid (Kept [] w w1 ∧ Tab w1) := ⟨hk1, Tab.kept HT0.out hk1⟩
  clear hk1 HT0
  go_wp2_with fail
  refine (made_any w1 HK.out.2).mono ?_
  rintro e w2 ⟨b, g, rfl, h2⟩
  obtain ⟨fb, hfb⟩ : ∃ fb, w2.heap.size = fb := ⟨_, rfl⟩
  have hne : g ≠ fb := by rw [← hfb]; exact h2.ne_new (g, box b 0) (by simp)
  have H2 : Hid (Dd AnyT [(fb, .cells (fl fun b => (many [] (b : Int) noname : Int)) 3 (0, 0)), (g, box b 0)] w1 (w2.alloc (.cells (i64s (List.replicate 8 0)) 3)) b g 0 4 1024 96 []) := by
    have := h2.push (.cells (i64s (List.replicate 8 0)) 3 (0, 0))
    rw [hfb] at this
    exact this
  have HN : Hid (∀ x ∈ [(g, box b 0)], x.1 ≠ fb) := fun x hx => by rw [List.mem_singleton] at hx; rw [hx]; exact hne
  have HFB : Hid (_) := hfb
  clear h2 hfb hne
  go_wp2_with fail
  rw [HFB.out]
  go_loopw [10, 8] (fun i m wr => ∃ (n : Nat) (E : List En), i = .int .i64 (n : Int) ∧ m = .int .i64 (E.length : Int) ∧ n ≤ 120 ∧ E.length ≤ 32 ∧ Hid (Dd AnyT [(fb, .cells (fl fun b => (many E (b : Int) noname : Int)) 3 (0, 0)), (g, box b 0)] w1 wr b g 0 4 1024 (96 + 15 * n) E ∧ ∀ x ∈ E, ∃ j, j < n ∧ x.1 = kn 109 (j + o))) (fun i _ _ => (120 - intOf i).toNat)
  case atStart => exact ⟨0, [], rfl, rfl, by omega, by simp, H2.out, by simp⟩
  case round =>
    clear H2 hmk
    obtain ⟨n, E, rfl, rfl, hn, hE, HJ⟩ := hrel
    by_cases hlt : n < 120
    · have i0 : (n : Int) < 120 := by omega
      obtain ⟨c, hc, hcc⟩ := core3 (n : Int)
      have HC : Hid (_) := hcc
      clear hcc
      go_wp2_with fail
      rw [HV.out.1]
      refine (f_decimal (n + o) _ (by rw [wrap_small _ (by omega) (by omega)]; omega) wr (by omega)).mono ?_
      rintro e w3 ⟨rfl, hk3⟩
      have H3 : Hid (_ ∧ _) := ⟨Dd.still HJ.out.1 hk3, HJ.out.2⟩
      clear hk3 HJ
      have hds : (strOfNums (digs (n + o))).size ≤ 3 := by rw [strOfNums_size]; exact (digs_length _).2
      obtain ⟨d, hd⟩ : ∃ d, strOfNums (digs (n + o)) = d := ⟨_, rfl⟩
      have HKN : Hid ((⟨#[109]⟩ : ByteArray) ++ d = kn 109 (n + o)) := by show _ = _; rw [← hd]; rfl
      rw [hd] at hds ⊢
      clear hd
      have hds2 : ¬ 9223372036854775807 < 1 + d.size := by omega
      go_wp2_with fail
      rw [HKN.out]
      have hmay := may_m (n + o) (by omega)
      have hsz := kn_size 109 (n + o)
      have hnn := no_name_kn 109 (n + o)
      have hno : ∀ x ∈ E, x.1 ≠ kn 109 (n + o) := fun x hx e => by
        obtain ⟨j, hj, hj2⟩ := H3.out.2 x hx
        have := kn_inj_m (n := j + o) (m := n + o) (by omega) (by omega) (by rw [← hj2, e])
        omega
      obtain ⟨s, hs⟩ : ∃ s, kn 109 (n + o) = s := ⟨_, rfl⟩
      rw [hs] at hmay hsz hnn hno ⊢
      have HS : Hid (kn 109 (n + o) = s ∧ chk s = 0 ∧ s ≠ noname ∧ ∀ x ∈ E, x.1 ≠ s) := ⟨hs, hmay, hnn, hno⟩
      clear hs hmay hnn hno HKN hds hds2
      obtain ⟨q, hq8, hq⟩ := bkt_nat s
      have HQ : Hid (bkt s = (q : Int)) := hq
      clear hq
      refine (f_bucket s w3 (by omega)).mono ?_
      rintro e w4 ⟨rfl, hw4⟩
      subst hw4
      have hbk : hashL (rs s 0) 7 % 8 = (q : Int) := HQ.out
      rw [hbk]
      clear hbk
      have q0 : (0 : Int) ≤ (q : Int) := by omega
      have q1 : (q : Int) < 8 := by omega
      go_wp2_with fail
      rw [HC.out]
      have h4 := Dd.four H3.out.1 hq8 noname
      by_cases hf : 4 ≤ many E (q : Int) noname
      · refine (e_insert_full H3.out.1 c q s ((n : Int) + 1) HS.out.2.1 HS.out.2.2.2 hf HQ.out hc (by omega) (by omega) (anyR _ _ _) (anyW _ _ _) (by omega)).mono ?_
        rintro e w5 ⟨rfl, h5⟩
        have hcell : w5.cell? ⟨fb, q, none⟩ = some (.int .i64 ((many E (q : Int) noname : Nat) : Int)) := (cell_of_row _ _ _ _ _ _ (h5.at_ (x := (fb, _)) (List.mem_cons_self ..))).trans (fl_get _ hq8)
        have H5 : Hid (_ ∧ ∀ x ∈ E, ∃ j, j < n + 1 ∧ x.1 = kn 109 (j + o)) := ⟨h5.mono (show _ ≤ 96 + 15 * (n + 1) by omega), fun x hx => by obtain ⟨j, hj, hj2⟩ := H3.out.2 x hx; exact ⟨j, by omega, hj2⟩⟩
        clear h5 H3 HS
        obtain ⟨y, hy⟩ : ∃ y : Nat, many E (q : Int) noname = y := ⟨_, rfl⟩
        rw [hy] at hcell hf h4
        have e4 : y = 4 := by omega
        clear hy
        subst e4
        clear hf h4
        go_wp2_with fail
        have HD : Hid (w5.drew.cell? ⟨fb, q, none⟩ = some (.int .i64 4)) := hcell
        go_region_held3 (fun w' => w'.cell? ⟨fb, q, none⟩ = some (.int .i64 4)) (first | exact HD.out | exact z6 | go_keep)
          (first
            | (go_at_call 11; refine (num9 _ _).mono ?_; rintro e w6 ⟨rfl, hw6⟩; have z6 : w6.cell? ⟨fb, q, none⟩ = some (.int .i64 4) := (by rw [hw6]; exact HD.out)))
        have H6 : Hid (_ ∧ _) := ⟨Dd.still H5.out.1 (Kept.refl [] w5).drew, H5.out.2⟩
        clear H5 hw6 HD z6
        go_wp2_with fail
        go_roundw
        case rel => exact ⟨n + 1, E, by go_num, rfl, by omega, hE, H6.out⟩
        case measure => simp [intOf]; omega
      · refine (e_insert_ok H3.out.1 c q s ((n : Int) + 1) HS.out.2.1 HS.out.2.2.2 hf HQ.out hc (by omega) (by omega) (anyR _ _ _) (anyW _ _ _) (by omega)).mono ?_
        rintro e w5 ⟨rfl, h5⟩
        have hb5 := h5.at_ (x := (fb, _)) (List.mem_cons_self ..)
        have hcell : w5.cell? ⟨fb, q, none⟩ = some (.int .i64 ((many E (q : Int) noname : Nat) : Int)) := (cell_of_row _ _ _ _ _ _ hb5).trans (fl_get _ hq8)
        have hfew := h5.few
        rw [put_length] at hfew
        have H5 : Hid (_ ∧ (putE E (s, (n : Int) + 1)).length = E.length + 1 ∧ ∀ x ∈ putE E (s, (n : Int) + 1), ∃ j, j < n + 1 ∧ x.1 = kn 109 (j + o)) := ⟨h5.mono (show _ ≤ 96 + 15 * (n + 1) by omega), put_length _ _, fun x hx => by
          rcases mem_put.1 hx with rfl | hx
          · exact ⟨n, by omega, HS.out.1.symm⟩
          · obtain ⟨j, hj, hj2⟩ := H3.out.2 x hx
            exact ⟨j, by omega, hj2⟩⟩
        have HM : Hid (∀ i : Nat, i < 8 → ((many (putE E (s, (n : Int) + 1)) (i : Int) noname : Nat) : Int) = if i = q then ((many E (q : Int) noname : Nat) : Int) + 1 else ((many E (i : Int) noname : Nat) : Int)) := fun i hi => by
          rw [many_put]
          by_cases e : i = q
          · subst e; rw [if_pos ⟨HS.out.2.2.1, HQ.out⟩, if_pos rfl]; omega
          · rw [if_neg (fun h => e (by have := HQ.out; have := h.2; simp only at this; omega)), if_neg e]; omega
        clear h5 H3 hb5 HS
        obtain ⟨y, hy⟩ : ∃ y : Nat, many E (q : Int) noname = y := ⟨_, rfl⟩
        have HY : Hid (_) := hy
        rw [hy] at hcell hf h4
        have y4 : (y : Int) < 4 := by omega
        have y5 : decide ((y : Int) < 4) = true := by simp; omega
        have y6 : y < 4 := by omega
        have y7 : decide (y < 4) = true := by simp; omega
        clear hy hf h4
        go_wp2_with fail
        have HD : Hid (w5.drew.cell? ⟨fb, q, none⟩ = some (.int .i64 (y : Int))) := hcell
        go_region_held3 (fun w' => w'.cell? ⟨fb, q, none⟩ = some (.int .i64 (y : Int))) (first | exact HD.out | exact z6 | go_keep)
          (first
            | (go_at_call 11; refine (num9 _ _).mono ?_; rintro e w6 ⟨rfl, hw6⟩; have z6 : w6.cell? ⟨fb, q, none⟩ = some (.int .i64 (y : Int)) := (by rw [hw6]; exact HD.out)))
        have hfz : w5.frozen? ⟨fb, q, none⟩ = false := frozen_of_row _ _ _ _ _ (H5.out.1.at_ (x := (fb, _)) (List.mem_cons_self ..))
        have h7 := Dd.put H5.out.1 HN.out (by simp) q (.int .i64 ((y : Int) + 1))
        rw [fl_set _ (fun i => ((many (putE E (s, (n : Int) + 1)) (i : Int) noname : Nat) : Int)) hq8 (fun i hi => by rw [HM.out i hi, HY.out])] at h7
        have H7 : Hid (_) := Dd.still h7 (Kept.refl [] _).drew
        have HL : Hid (_ ∧ _) := H5.out.2
        clear H5 hw6 HD z6 HM h7
        go_wp2_with fail
        go_roundw
        case rel => exact ⟨n + 1, putE E (s, (n : Int) + 1), by go_num, by rw [HL.out.1]; go_num, by omega, by rw [HL.out.1]; omega, H7.out, HL.out.2⟩
        case measure => simp [intOf]; omega
    · have i0 : ¬ (n : Int) < 120 := by omega
      have H3 : Hid (_) := Dd.mono HJ.out.1 (show _ ≤ 2000 by omega)
      clear HJ
      go_wp2_with fail
      rw [HV.out.2]
      refine (e_list H3.out c0 hc0 (fun n _ => anyR _ _ n) (by omega)).mono ?_
      rintro e w3 ⟨u, D, rfl, hu, h4, hd⟩
      obtain ⟨ua, uc, rfl⟩ := hu.slice
      have HU : Hid (Oe (.slice ua E.length uc) E D ∧ Rise E) := ⟨hu, h4.rise⟩
      have H4 : Hid (_) := h4
      clear hu h4 hd H3
      go_wp2_with fail
      go_loopw [15] (fun i wr => ∃ j : Nat, i = .int .i64 (j : Int) ∧ j ≤ E.length ∧ Hid (Dd AnyT (D ++ [(fb, .cells (fl fun b => (many E (b : Int) noname : Int)) 3 (0, 0)), (g, box b 0)]) w1 wr b g 0 4 1024 (2096 + 27 * j) (E.drop j))) (fun i _ => (E.length - intOf i).toNat)
      case atStart => exact ⟨0, rfl, by omega, H4.out⟩
      case round =>
        clear H4
        obtain ⟨j, rfl, hj, HJ⟩ := hrel
        by_cases hlj : j < E.length
        · have j0 : (j : Int) < (E.length : Int) := by omega
          have j1 : (0 : Int) ≤ (j : Int) := by omega
          obtain ⟨c, hc, hcc⟩ := core3 (j : Int)
          have HC : Hid (_) := hcc
          clear hcc
          have hrow : ∀ W : World, (∀ x ∈ D, W.heap[x.1]? = some x.2) → ∃ gg, ua = some ⟨gg, 0, none⟩ ∧ W.cell? ⟨gg, j * 2, none⟩ = some (.string (E[j]).1) ∧ W.cell? ⟨gg, j * 2 + 1, none⟩ = some (.int .i64 (E[j]).2) := fun W hW => by
            obtain ⟨a, cap, he, hcl⟩ := (HU.out.1.own hW).slice
            rw [Value.slice.injEq] at he
            obtain ⟨gg, h1, h2, h3⟩ := hcl j hlj
            exact ⟨gg, he.1.trans h1, h2, h3⟩
          have HR : Hid (_) := hrow
          clear hrow
          obtain ⟨gg, rfl, cs0, cn0⟩ := HR.out wr (fun x hx => HJ.out.at_ (by simp [hx]))
          have hdj : E.drop j = E[j] :: E.drop (j + 1) := List.drop_eq_getElem_cons hlj
          have HD : Hid (E.drop j = E[j] :: E.drop (j + 1) ∧ Rise (E.drop j)) := ⟨hdj, List.Pairwise.sublist (List.drop_sublist ..) HU.out.2⟩
          clear hdj
          obtain ⟨x, hx⟩ : ∃ x, E[j] = x := ⟨_, rfl⟩
          rw [hx] at cs0 cn0 HD
          have HXJ : Hid (_) := hx
          clear hx
          obtain ⟨q, hq8, hq⟩ := bkt_nat x.1
          have HQ : Hid (bkt x.1 = (q : Int)) := hq
          clear hq
          go_wp2_with fail
          rw [HC.out]
          refine (e_find_yes HJ.out c q x.1 x.2 (by rw [HD.out.1]; simp) HQ.out hc (anyR _ _ _) (by omega)).mono ?_
          rintro e w4 ⟨rfl, h4⟩
          obtain ⟨g2, hg2, cs1, cn1⟩ := HR.out w4 (fun x hx => h4.at_ (by simp [hx]))
          rw [HXJ.out] at cs1 cn1
          obtain rfl : gg = g2 := by simpa using hg2
          have H4 : Hid (_) := h4
          clear h4 HJ cs0 cn0 hg2 cn1
          go_wp2_with fail
          rw [HC.out]
          refine (e_remove_yes H4.out c q x.1 x.2 (by rw [HD.out.1]; simp) HQ.out hc (anyR _ _ _) (anyW _ _ _) (by omega)).mono ?_
          rintro e w5 ⟨rfl, h5⟩
          obtain ⟨g2, hg2, -, cn1⟩ := HR.out w5 (fun x hx => h5.at_ (by simp [hx]))
          rw [HXJ.out] at cn1
          obtain rfl : gg = g2 := by simpa using hg2
          have H5 : Hid (Dd AnyT (D ++ [(fb, .cells (fl fun b => (many E (b : Int) noname : Int)) 3 (0, 0)), (g, box b 0)]) w1 w5 b g 0 4 1024 (2096 + 27 * (j + 1)) (E.drop (j + 1))) := by
            have h6 := HD.out.2
            have h7 := h5
            rw [HD.out.1] at h6 h7
            rw [drop_first h6] at h7
            exact h7.mono (by omega)
          clear h5 H4 cs1 hg2 HD HXJ HR
          go_wp2_with (first
            | (go_at_call 11; refine (num9 _ _).mono ?_; rintro e w' ⟨rfl, rfl⟩))
          go_roundw
          case rel => exact ⟨j + 1, by go_num, by omega, H5.out⟩
          case measure => simp [intOf]; omega
        · have j0 : ¬ (j : Int) < (E.length : Int) := by omega
          have H5 : Hid (Dd AnyT (D ++ [(fb, .cells (fl fun b => (many E (b : Int) noname : Int)) 3 (0, 0)), (g, box b 0)]) w1 wr b g 0 4 1024 3000 []) := by
            have := HJ.out
            rw [List.drop_eq_nil_of_le (by omega)] at this
            exact this.mono (by omega)
          clear HJ
          go_wp2_with fail
          refine (e_list H5.out 0 (by omega) (fun n _ => anyR _ _ n) (by omega)).mono ?_
          rintro e w5 ⟨u2, D2, rfl, hu2, h6, -⟩
          obtain ⟨ua2, uc2, rfl⟩ := hu2.slice
          have H6 : Hid (Kept [] w w5) := HK.out.1.trans h6.old (by simp)
          clear hu2 h6 H5
          go_wp2_with fail
          go_ret
          exact ⟨rfl, H6.out⟩

theorem walk (v gone : Int) (w : World) (hT : Tab w) (_ : (Lit.int .i64 v).wf = true) (_ : (Lit.int .i64 gone).wf = true) :
    Calls Tryd.prog 7 #[.int .i64 v, .int .i64 gone] w fun e w' => e = .returned (.bool true) ∧ Below w.heap.size w w' := by
  obtain ⟨c0, hc0, hg⟩ := core3 gone
  refine (main v gone (v % 256).toNat c0 w hT (by omega) hc0 (by rw [bits255]; omega) hg).mono fun e w' ⟨he, hk⟩ => ⟨he, hk.below (Nat.le_refl _) (by simp)⟩

set_option maxRecDepth 100000 in
theorem lifted (os : Os) (started : os.Started) (H : Type) (enc : TypeId × Value → H) :
    ReturnsInHanded {} Tryd.checked os 7 .any (fun w args => (Rows.dirManySpec.pre enc Tryd.prog Tryd.f7 [] false w args ∧ laidMetH Tryd.prog laid2 w) ∧ sizedMet enc Tryd.prog Tryd.f7 (OpenSpec.ofChange Rows.dirManySpec) false w args)
      (Rows.dirManySpec.post enc Tryd.prog Tryd.f7 false true false false) := by
  refine returnsInHanded_of_change_and (C := Tryd.checked) (X := fun w _ => laidMetH Tryd.prog laid2 w) (fun _ _ _ hh h => h.of_heap hh) own started (by kernel_rfl) Tryd.func7
    (ChangeSpec.witness_shaped (enc := enc) (C := Tryd.checked) (os := os) (X := fun w _ => laidMetH Tryd.prog laid2 w) false (World.laidAll Tryd.prog os laid2) #[.int .i64 0, .int .i64 0] 8 (World.laidAll_os _ _ _) (World.shaped_of_ZipB (by kernel_rfl) (by kernel_rfl)) (by kernel_rfl) (by kernel_rfl) (by kernel_rfl) (met_laid os _)) ?_
  intro W base args ds gs before hval0 hW _ hsz0 hL _
  have hsz : (DataW.weightsEach Tryd.prog (Tryd.f7.params.toList ++ Rows.dirManySpec.plain.varTypes Tryd.prog) (ds ++ gs)).all (· ≤ reachBytes) = true := hsz0
  have hval : ∀ (j : Nat) t v, Tryd.f7.params[j]? = some t → args[j]? = some v → Value.okWide Tryd.prog W .any base t v := hval0
  have hW' := hW
  obtain ⟨p, q, hA0, hV, rfl, hfz, hnd⟩ := hW
  have hA : DataW.TrodAll enc Tryd.prog W 0 (fun _ => true) true Tryd.f7.params.toList args.toList ds p := hA0
  rw [Tryd.params7] at hA hval hsz
  obtain ⟨v0, vs0, d0, ds0, p0, q0, hargs, rfl, rfl, h0, r0⟩ := trodAll_cons hA
  obtain ⟨v1, vs1, d1, ds1, p1, q1, rfl, rfl, rfl, h1, r1⟩ := trodAll_cons r0
  obtain ⟨rfl, rfl, rfl⟩ := trodAll_nil r1
  obtain rfl : args = #[v0, v1] := by cases args; simp_all
  obtain ⟨rfl, rfl⟩ := trodVars_none hV
  obtain ⟨a0, rfl, rfl, rfl, w0⟩ := open_int Tryd.underlying3 (hval 0 3 v0 rfl rfl) h0
  obtain ⟨a1, rfl, rfl, rfl, w1⟩ := open_int Tryd.underlying3 (hval 1 3 v1 rfl rfl) h1
  clear hA0 hval0
  refine (walk a0 a1 W (of_laid hL) w0 w1).mono fun e W' ⟨he, bel⟩ => ?_
  subst he
  simp only [List.append_nil] at hW'
  exact ⟨_, rfl, _, _, _, [], [], [], hW', (trodAll_cons_mk (shut_bool Tryd.underlying4 _) trodAll_mk0), (trodAll_cons_mk (shut_int Tryd.underlying3 w0) (trodAll_cons_mk (shut_int Tryd.underlying3 w1) trodAll_mk0)), rfl, bel.frame _, fun h => by cases h⟩

theorem over : Rows.dirManyRow.holds Tryd.pinned (OpenSpec.ofChange Rows.dirManySpec) :=
  OpenClaim.holds_of_wide 7 Tryd.f7 rfl rfl rfl rfl rfl rfl rfl ⟨rfl, rfl, rfl, rfl, rfl⟩ rfl rfl rfl rfl rfl (by kernel_rfl) Tryd.func7 (by kernel_rfl)
    (of_decide_eq_true (by kernel_rfl)) (by unfold Func.isWrapper; first | (rw [if_pos (by decide +kernel)]; kernel_rfl) | (rw [if_neg (by decide +kernel)]; exact ⟨rfl, rfl⟩))
    (fun os started H enc _ => lifted os started H enc)

theorem card : Rows.DirManyCardSaid :=
  Claim7.holds_tied_plain_at .later [] [.data, .pinned] true (true, "b52752b4ad1ea57d169ecc7371ec3f9f9e5e71061f90f46f4a0915212379700a") true
    over (fun _ h => by cases h) (by kernel_rfl) (fun _ h => by cases h) dirMany_row_tie rfl ⟨rfl, rfl⟩ (by kernel_rfl) rfl
    (fun f fn hf hfn => by
      obtain rfl : f = 7 := Option.some.inj ((show Tryd.prog.funcNamed "concourse/concourselaw9.DirMany" = some 7 by kernel_rfl).symm.trans hf) |>.symm
      obtain rfl : fn = Tryd.f7 := (Option.some.inj (Tryd.func7.symm.trans hfn)).symm
      exact ⟨by kernel_rfl, fun j t ht => by
        rw [Tryd.params7] at ht
        have hm : t ∈ [3, 3] := by simpa using Array.mem_of_getElem? ht
        have hall : ([3, 3].all fun u => !Tryd.prog.wantsStandIn u) = true := by kernel_rfl
        exact (show Tryd.prog.wantsStandIn t = false by simpa using List.all_eq_true.1 hall t hm)⟩)
    (by kernel_rfl)

end Go.Proofs.YtnbbcbjfejdceaaDoor.dirMany

namespace Go.Proofs.YtnbbcbjfejdceaaDoor
theorem dirMany_holds : Rows.DirManyCardSaid := dirMany.card
#print axioms dirMany_holds
end Go.Proofs.YtnbbcbjfejdceaaDoor
