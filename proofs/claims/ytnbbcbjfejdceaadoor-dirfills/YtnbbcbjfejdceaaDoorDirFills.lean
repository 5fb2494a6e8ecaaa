/-
  a bucket takes MaxSlots names, and again as many as leave: P9.1, without the document's answer.
-/
import Derived.Test.YtnbbcbjfejdceaaDoorRows
import Derived.Test.YtnbbcbjfejdceaaDoorCards
import Derived.Test.YtnbbcbjfejdceaaDoorTie
import Derived.Test.YtnbbcbjfejdceaaDoorLaid
import Derived.Test.YtnbbcbjfejdceaaDoorOt
import Derived.WalkKit
import Derived.ProofKit
import Derived.OpenShut
import Derived.ShutString
import Derived.ChangeOld
import Derived.Below
import Derived.Deep.Slices
import Derived.LaidMore
import Derived.Lay
import Derived.SizedLaws
import Derived.Laws.BytesArg
import Derived.Stop.Joined
import Derived.SevenTiedAt
namespace Go.Proofs.YtnbbcbjfejdceaaDoor.dirFills
open Go.ChangeShapes Go.WideShapes Go.ChangeAt Go.RowKit
open Go.ChangeMaps (open_string shut_string)
set_option linter.unusedVariables false

theorem nth_ne {xs : List ByteArray} (h : xs.Pairwise (· ≠ ·)) {i j : Nat} (hi : i < xs.length) (hj : j < xs.length) (hne : i ≠ j) : xs[i] ≠ xs[j] := by
  rcases Nat.lt_or_gt_of_ne hne with h1 | h1
  · exact List.pairwise_iff_getElem.1 h i j hi hj h1
  · exact (List.pairwise_iff_getElem.1 h j i hj hi h1).symm

set_option maxRecDepth 100000 in
set_option maxHeartbeats 16000000 in
theorem main (v gone : Int) (o B k0 : Nat) (w : World) (hT : Tab w) (ho : o < 64) (hB8 : B < 8) (hk0 : k0 < 4) (hv : bits .and .i64 v 63 = (o : Int)) (hB : bits .and .i64 (wrap64 (Int.tdiv v 64)) 7 = (B : Int)) (hg : bits .and .i64 gone 3 = (k0 : Int)) :
    Calls Tryd.prog 5 #[.int .i64 v, .int .i64 gone] w fun e w' => e = .returned (.bool true) ∧ Kept [] w w' := by
  have HV : Hid (_ ∧ _ ∧ _) := ⟨hv, hB, hg⟩
  have HT0 : Hid (Tab w) := hT
  clear hT hv hg hB
  go_enter Tryd.func5, Tryd.ntmps5
  go_wp2_with fail
  refine (awake_dir w HT0.out).mono ?_
  rintro e w1 ⟨rfl, hk1⟩
  have HK : Hid (Kept [] w w1 ∧ Tab w1) := ⟨hk1, Tab.kept HT0.out hk1⟩
  clear hk1 HT0
  go_wp2_with fail
  refine (made_any w1 HK.out.2).mono ?_
  rintro e w2 ⟨b, g, rfl, h2⟩
  have H2 : Hid (Dd AnyT ([] ++ [(g, box b 0)]) w1 w2 b g 0 4 1024 96 []) := h2
  clear h2
  go_wp2_with fail
  go_loopw [9, 8] (fun i u wr => ∃ (n : Nat) (D : List (Nat × Obj)), i = .int .i64 (n : Int) ∧ n ≤ 100 ∧ (sel o B n).length ≤ 5 ∧ Hid (Ot u (sel o B n) D ∧ Dd AnyT (D ++ [(g, box b 0)]) w1 wr b g 0 4 1024 96 [] ∧ ∀ x ∈ D, ∀ y ∈ [(g, box b 0)], y.1 ≠ x.1)) (fun i _ _ => (100 - intOf i).toNat)
  case atStart => exact ⟨0, [], rfl, by omega, by simp [sel], Or.inl ⟨rfl, rfl, rfl⟩, H2.out, by simp⟩
  case round =>
    clear H2
    obtain ⟨n, D, rfl, hn, hlen, HJ⟩ := hrel
    obtain ⟨ua, uc, rfl⟩ := HJ.out.1.slice
    by_cases hlt : (sel o B n).length < 5
    · have hn2 : n < 100 := by
        rcases Nat.lt_or_ge n 100 with h | h
        · exact h
        · have e : n = 100 := by omega
          rw [e] at hlt
          have := sel_five (o := o) (B := B) ho hB8
          omega
      obtain ⟨L5, hL5⟩ : ∃ L5, (sel o B n).length = L5 := ⟨_, rfl⟩
      have HL5 : Hid (_) := hL5
      rw [hL5] at hlt hlen HJ ⊢
      clear hL5
      have i0 : (L5 : Int) < 5 := by omega
      have i1 : (n : Int) < 400 := by omega
      go_wp2_with fail
      rw [HV.out.1]
      refine (f_decimal (n + o) _ (by rw [wrap_small _ (by omega) (by omega)]; omega) wr (by omega)).mono ?_
      rintro e w3 ⟨rfl, hk3⟩
      have H3 : Hid (_ ∧ _ ∧ _) := ⟨HJ.out.1, Dd.still HJ.out.2.1 hk3, HJ.out.2.2⟩
      clear hk3 HJ
      have hds : (strOfNums (digs (n + o))).size ≤ 3 := by rw [strOfNums_size]; exact (digs_length _).2
      obtain ⟨d, hd⟩ : ∃ d, strOfNums (digs (n + o)) = d := ⟨_, rfl⟩
      have HKN : Hid ((⟨#[107]⟩ : ByteArray) ++ d = kn 107 (n + o)) := by show _ = _; rw [← hd]; rfl
      rw [hd] at hds ⊢
      clear hd
      have hds2 : ¬ 9223372036854775807 < 1 + d.size := by omega
      go_wp2_with fail
      rw [HKN.out]
      have hsz := kn_size 107 (n + o)
      obtain ⟨s, hs⟩ : ∃ s, kn 107 (n + o) = s := ⟨_, rfl⟩
      rw [hs] at hsz ⊢
      have HS : Hid (kn 107 (n + o) = s) := hs
      clear hs HKN hds hds2
      obtain ⟨q, hq8, hq⟩ := bkt_nat s
      have HQ : Hid (bkt s = (q : Int)) := hq
      clear hq
      refine (f_bucket s w3 (by omega)).mono ?_
      rintro e w4 ⟨rfl, hw4⟩
      subst hw4
      have hbk : hashL (rs s 0) 7 % 8 = (q : Int) := HQ.out
      rw [hbk]
      clear hbk
      by_cases hqB : q = B
      · have t0 : ((q : Int) == bits .and .i64 (wrap64 (Int.tdiv v 64)) 7) = true := by rw [HV.out.2.1, hqB]; simp
        obtain ⟨v', w', D', hr, hu', hR', hd'⟩ := Dd.appendT H3.out.2.1 H3.out.1 (by simp) H3.out.2.2 s (by have := HL5.out; omega) 47
        have hsel : sel o B (n + 1) = sel o B n ++ [s] := by rw [sel_yes (by rw [HS.out, HQ.out, hqB]), HS.out]
        have H4 : Hid ((sel o B (n + 1)).length ≤ 5 ∧ Ot v' (sel o B (n + 1)) D' ∧ Dd AnyT (D' ++ [(g, box b 0)]) w1 w' b g 0 4 1024 96 [] ∧ ∀ x ∈ D', ∀ y ∈ [(g, box b 0)], y.1 ≠ x.1) := ⟨by rw [hsel, List.length_append, HL5.out]; simp only [List.length_cons, List.length_nil]; omega, by rw [hsel]; exact hu', hR', hd'⟩
        have HA : Hid (_) := hr
        clear hr hu' hR' hd' hsel H3 HS HL5
        go_wp2_with (at_builtin; refine wpList_append_run _ rfl _ _ 47 47 rfl _ _ rfl rfl _ _ HA.out ?_)
        go_roundw
        case rel => exact ⟨n + 1, D', by go_num, by omega, H4.out.1, H4.out.2⟩
        case measure => simp [intOf]; omega
      · have t0 : ((q : Int) == bits .and .i64 (wrap64 (Int.tdiv v 64)) 7) = false := by rw [HV.out.2.1]; simp; omega
        have t1 : ¬ ((q : Int) = bits .and .i64 (wrap64 (Int.tdiv v 64)) 7) := by rw [HV.out.2.1]; omega
        have hsel : sel o B (n + 1) = sel o B n := sel_no (by rw [HS.out, HQ.out]; omega)
        have H4 : Hid ((sel o B (n + 1)).length ≤ 5 ∧ Ot (.slice ua L5 uc) (sel o B (n + 1)) D ∧ Dd AnyT (D ++ [(g, box b 0)]) w1 w4 b g 0 4 1024 96 [] ∧ ∀ x ∈ D, ∀ y ∈ [(g, box b 0)], y.1 ≠ x.1) := ⟨by rw [hsel, HL5.out]; omega, by rw [hsel]; exact H3.out.1, H3.out.2⟩
        clear hsel H3 HS HL5
        go_wp2_with fail
        go_roundw
        case rel => exact ⟨n + 1, D, by go_num, by omega, H4.out.1, H4.out.2⟩
        case measure => simp [intOf]; omega
    · have h5 : (sel o B n).length = 5 := by omega
      have HX0 : Hid ((∀ s ∈ sel o B n, chk s = 0 ∧ bkt s = (B : Int) ∧ s ≠ noname) ∧ (sel o B n).Pairwise (· ≠ ·)) := ⟨fun s hs => by
        obtain ⟨i, hi, rfl, hb⟩ := sel_mem hs
        exact ⟨may_k _ (by omega), hb, no_name_kn _ _⟩, sel_apart ho hn⟩
      obtain ⟨xs, hxs⟩ : ∃ xs, sel o B n = xs := ⟨_, rfl⟩
      rw [hxs] at HX0 HJ h5 ⊢
      clear hxs hlt hlen
      rw [h5] at HJ ⊢
      have HU : Hid (Ot (.slice ua 5 uc) xs D ∧ xs.length = 5) := ⟨HJ.out.1, h5⟩
      have H3 : Hid (_) := HJ.out.2.1
      clear HJ h5
      have hall : ∀ i, (hi : i < 5) → ∃ s, ∃ gg, ua = some ⟨gg, 0, none⟩ ∧ (∀ W : World, (∀ x ∈ D, W.heap[x.1]? = some x.2) → W.cell? ⟨gg, i, none⟩ = some (.string s)) ∧ chk s = 0 ∧ bkt s = (B : Int) ∧ s ≠ noname ∧ xs[i]? = some s := fun i hi => by
        have hi2 : i < xs.length := by rw [HU.out.2]; exact hi
        obtain ⟨gg, h1, -⟩ := HU.out.1.cell (w := wr) (fun x hx => Dd.at_ H3.out (by simp [hx])) hi2
        refine ⟨xs[i], gg, h1, fun W hW => ?_, (HX0.out.1 _ (List.getElem_mem hi2)).1, (HX0.out.1 _ (List.getElem_mem hi2)).2.1, (HX0.out.1 _ (List.getElem_mem hi2)).2.2, List.getElem?_eq_getElem hi2⟩
        obtain ⟨g2, h2, h3⟩ := HU.out.1.cell hW hi2
        have e : gg = g2 := by rw [h1] at h2; simpa using h2
        rw [e]
        exact h3
      have HA : Hid (_) := hall
      have HP : Hid (∀ i j s t, i ≠ j → xs[i]? = some s → xs[j]? = some t → s ≠ t) := fun i j s t hne h1 h2 => by
        obtain ⟨hi, rfl⟩ := List.getElem?_eq_some_iff.1 h1
        obtain ⟨hj, rfl⟩ := List.getElem?_eq_some_iff.1 h2
        exact nth_ne HX0.out.2 hi hj hne
      clear hall HX0 HU
      obtain ⟨-, gg, rfl, -⟩ := HA.out 0 (by omega)
      have HA2 : Hid (∀ i, (hi : i < 5) → ∃ s, (∀ W : World, (∀ x ∈ D, W.heap[x.1]? = some x.2) → W.cell? ⟨gg, i, none⟩ = some (.string s)) ∧ chk s = 0 ∧ bkt s = (B : Int) ∧ s ≠ noname ∧ xs[i]? = some s) := fun i hi => by
        obtain ⟨s, g2, h1, h2⟩ := HA.out i hi
        have e : gg = g2 := by simpa using h1
        rw [e]
        exact ⟨s, h2⟩
      clear HA
      go_wp2_with fail
      go_loopw [11] (fun i wr => ∃ (m : Nat) (E : List En), i = .int .i64 (m : Int) ∧ m ≤ 4 ∧ Hid (Dd AnyT (D ++ [(g, box b 0)]) w1 wr b g 0 4 1024 (96 + 15 * m) E ∧ many E (B : Int) noname = m ∧ E.length = m ∧ (∀ x ∈ E, ∃ j, j < m ∧ xs[j]? = some x.1) ∧ ∀ j s, j < m → xs[j]? = some s → ∃ y, (s, y) ∈ E)) (fun i _ => (4 - intOf i).toNat)
      case atStart => exact ⟨0, [], rfl, by omega, H3.out, rfl, rfl, by simp, fun j s hj => by omega⟩
      case round =>
        clear H3
        obtain ⟨m, E, rfl, hm, HM⟩ := hrel
        by_cases hlm : m < 4
        · have j0 : (m : Int) < 4 := by omega
          have j1 : (0 : Int) ≤ (m : Int) := by omega
          have j2 : (m : Int) < 5 := by omega
          obtain ⟨s, hcell, hmay, hbk, hnn, hxm⟩ := HA2.out m (by omega)
          have hc0 := hcell wr (fun x hx => HM.out.1.at_ (by simp [hx]))
          have HS : Hid (chk s = 0 ∧ bkt s = (B : Int) ∧ s ≠ noname ∧ xs[m]? = some s) := ⟨hmay, hbk, hnn, hxm⟩
          clear hcell hmay hbk hnn hxm
          obtain ⟨c, hc, hcc⟩ := core3 (m : Int)
          have HC : Hid (_) := hcc
          clear hcc
          go_wp2_with fail
          rw [HC.out]
          refine (e_insert_ok HM.out.1 c B s ((m : Int) + 1) HS.out.1 (fun x hx e => ?_) (by rw [HM.out.2.1]; omega) HS.out.2.1 hc (by omega) (by omega) (anyR _ _ _) (anyW _ _ _) (by omega)).mono ?_
          · obtain ⟨j, hj, hj2⟩ := HM.out.2.2.2.1 x hx
            exact HP.out j m x.1 s (by omega) hj2 HS.out.2.2.2 e
          rintro e w4 ⟨rfl, h4⟩
          have H4 : Hid (Dd AnyT (D ++ [(g, box b 0)]) w1 w4 b g 0 4 1024 (96 + 15 * (m + 1)) (putE E (s, (m : Int) + 1)) ∧ many (putE E (s, (m : Int) + 1)) (B : Int) noname = m + 1 ∧ (putE E (s, (m : Int) + 1)).length = m + 1 ∧ (∀ x ∈ putE E (s, (m : Int) + 1), ∃ j, j < m + 1 ∧ xs[j]? = some x.1) ∧ ∀ j s', j < m + 1 → xs[j]? = some s' → ∃ y, (s', y) ∈ putE E (s, (m : Int) + 1)) := by
            refine ⟨h4.mono (by omega), ?_, ?_, ?_, ?_⟩
            · rw [many_put, if_pos ⟨HS.out.2.2.1, HS.out.2.1⟩, HM.out.2.1]
            · rw [put_length, HM.out.2.2.1]
            · intro x hx
              rcases mem_put.1 hx with rfl | hx
              · exact ⟨m, by omega, HS.out.2.2.2⟩
              · obtain ⟨j, hj, hj2⟩ := HM.out.2.2.2.1 x hx
                exact ⟨j, by omega, hj2⟩
            · intro j s' hj hj2
              rcases Nat.lt_succ_iff_lt_or_eq.1 hj with h | h
              · obtain ⟨y, hy⟩ := HM.out.2.2.2.2 j s' h hj2
                exact ⟨y, mem_put.2 (Or.inr hy)⟩
              · rw [h, HS.out.2.2.2] at hj2
                cases hj2
                exact ⟨_, mem_put.2 (Or.inl rfl)⟩
          clear h4 HM HS hc0
          go_wp2_with (first
            | (go_at_call 11; refine (num9 _ _).mono ?_; rintro e w' ⟨rfl, rfl⟩))
          go_roundw
          case rel => exact ⟨m + 1, _, by go_num, by omega, H4.out⟩
          case measure => simp [intOf]; omega
        · have j0 : ¬ (m : Int) < 4 := by omega
          have e4 : m = 4 := by omega
          have HM4 : Hid (Dd AnyT (D ++ [(g, box b 0)]) w1 wr b g 0 4 1024 200 E ∧ many E (B : Int) noname = 4 ∧ E.length = 4 ∧ (∀ x ∈ E, ∃ j, j < 4 ∧ xs[j]? = some x.1) ∧ ∀ j s, j < 4 → xs[j]? = some s → ∃ y, (s, y) ∈ E) := by
            have := HM.out
            rw [e4] at this
            exact ⟨this.1.mono (by omega), this.2⟩
          clear HM e4
          obtain ⟨s4, hcell4, hmay4, hbk4, hnn4, hx4⟩ := HA2.out 4 (by omega)
          have HS4 : Hid (_ ∧ _ ∧ _ ∧ _ ∧ _) := ⟨hcell4, hmay4, hbk4, hnn4, hx4⟩
          clear hcell4 hmay4 hbk4 hnn4 hx4
          obtain ⟨sk, hcellk, hmayk, hbkk, hnnk, hxk⟩ := HA2.out k0 (by omega)
          have HSk : Hid (_ ∧ _ ∧ _ ∧ _ ∧ _) := ⟨hcellk, hmayk, hbkk, hnnk, hxk⟩
          clear hcellk hmayk hbkk hnnk hxk
          have HN4 : Hid (∀ x ∈ E, x.1 ≠ s4) := fun x hx e => by
            obtain ⟨j, hj, hj2⟩ := HM4.out.2.2.2.1 x hx
            exact HP.out j 4 x.1 s4 (by omega) hj2 HS4.out.2.2.2.2 e
          have c4 := HS4.out.1 wr (fun x hx => HM4.out.1.at_ (by simp [hx]))
          go_wp2_with fail
          refine (e_insert_full HM4.out.1 0 B s4 9 HS4.out.2.1 HN4.out (by rw [HM4.out.2.1]; omega) HS4.out.2.2.1 (by omega) (by omega) (by omega) (anyR _ _ _) (anyW _ _ _) (by omega)).mono ?_
          rintro e w4 ⟨rfl, h4⟩
          have ck := HSk.out.1 w4 (fun x hx => h4.at_ (by simp [hx]))
          have H4 : Hid (_) := h4
          clear h4 c4
          obtain ⟨y, hy⟩ := HM4.out.2.2.2.2 k0 sk hk0 HSk.out.2.2.2.2
          have HY : Hid ((sk, y) ∈ E) := hy
          clear hy
          have k1 : (0 : Int) ≤ (k0 : Int) := by omega
          have k2 : (k0 : Int) < 5 := by omega
          have hgb := HV.out.2.2
          go_wp2_with fail
          refine (e_remove_yes H4.out 1 B sk y HY.out HSk.out.2.2.1 (by omega) (anyR _ _ _) (anyW _ _ _) (by omega)).mono ?_
          rintro e w5 ⟨rfl, h5⟩
          have c5 := HS4.out.1 w5 (fun x hx => h5.at_ (by simp [hx]))
          have HR : Hid (Rise E) := Dd.rise H4.out
          have H5 : Hid (_) := h5
          clear h5 H4 ck hgb
          have HM5 : Hid (many (dropE E sk) (B : Int) noname = 3 ∧ (dropE E sk).length = 3) := by
            have h6 := many_drop HR.out HY.out (B : Int) noname
            rw [if_pos ⟨HSk.out.2.2.2.1, HSk.out.2.2.1⟩, HM4.out.2.1] at h6
            have h7 := drop_length HR.out HY.out
            rw [HM4.out.2.2.1] at h7
            exact ⟨by omega, by omega⟩
          go_wp2_with fail
          refine (e_insert_ok H5.out 0 B s4 9 HS4.out.2.1 (fun x hx => HN4.out x (mem_dropE.1 hx).1) (by rw [HM5.out.1]; omega) HS4.out.2.2.1 (by omega) (by omega) (by omega) (anyR _ _ _) (anyW _ _ _) (by omega)).mono ?_
          rintro e w6 ⟨rfl, h6⟩
          have c6 := HS4.out.1 w6 (fun x hx => h6.at_ (by simp [hx]))
          have H6 : Hid (_) := h6
          clear h6 H5 c5
          go_wp2_with fail
          refine (e_find_yes H6.out 0 B s4 9 (mem_put.2 (Or.inl rfl)) HS4.out.2.2.1 (by omega) (anyR _ _ _) (by omega)).mono ?_
          rintro e w7 ⟨rfl, h7⟩
          have H7 : Hid (_) := h7
          have HL : Hid ((putE (dropE E sk) (s4, 9)).length = 4) := by show _ = 4; rw [put_length, HM5.out.2]
          clear h7 H6 c6
          go_wp2_with (first
            | (go_at_call 11; refine (num9 _ _).mono ?_; rintro e w' ⟨rfl, rfl⟩))
          refine (e_list H7.out 0 (by omega) (fun n _ => anyR _ _ n) (by omega)).mono ?_
          rintro e w8 ⟨u, D8, rfl, hu, h8, -⟩
          obtain ⟨ua8, uc8, rfl⟩ := hu.slice
          rw [HL.out]
          have H8 : Hid (Kept [] w w8) := HK.out.1.trans h8.old (by simp)
          clear hu h8 H7
          go_wp2_with fail
          go_ret
          exact ⟨rfl, H8.out⟩

theorem walk (v gone : Int) (w : World) (hT : Tab w) (_ : (Lit.int .i64 v).wf = true) (_ : (Lit.int .i64 gone).wf = true) :
    Calls Tryd.prog 5 #[.int .i64 v, .int .i64 gone] w fun e w' => e = .returned (.bool true) ∧ Below w.heap.size w w' := by
  obtain ⟨c0, hc0, hg⟩ := core3 gone
  refine (main v gone (v % 64).toNat (wrap64 (Int.tdiv v 64) % 8).toNat c0 w hT (by omega) (by omega) hc0 (by rw [bits63]; omega) (by rw [i64_and7]; omega) hg).mono fun e w' ⟨he, hk⟩ => ⟨he, hk.below (Nat.le_refl _) (by simp)⟩

set_option maxRecDepth 100000 in
theorem lifted (os : Os) (started : os.Started) (H : Type) (enc : TypeId × Value → H) :
    ReturnsInHanded {} Tryd.checked os 5 .any (fun w args => (Rows.dirFillsSpec.pre enc Tryd.prog Tryd.f5 [] false w args ∧ laidMetH Tryd.prog laid2 w) ∧ sizedMet enc Tryd.prog Tryd.f5 (OpenSpec.ofChange Rows.dirFillsSpec) false w args)
      (Rows.dirFillsSpec.post enc Tryd.prog Tryd.f5 false true false false) := by
  refine returnsInHanded_of_change_and (C := Tryd.checked) (X := fun w _ => laidMetH Tryd.prog laid2 w) (fun _ _ _ hh h => h.of_heap hh) own started (by kernel_rfl) Tryd.func5
    (ChangeSpec.witness_shaped (enc := enc) (C := Tryd.checked) (os := os) (X := fun w _ => laidMetH Tryd.prog laid2 w) false (World.laidAll Tryd.prog os laid2) #[.int .i64 0, .int .i64 0] 8 (World.laidAll_os _ _ _) (World.shaped_of_ZipB (by kernel_rfl) (by kernel_rfl)) (by kernel_rfl) (by kernel_rfl) (by kernel_rfl) (met_laid os _)) ?_
  intro W base args ds gs before hval0 hW _ hsz0 hL _
  have hsz : (DataW.weightsEach Tryd.prog (Tryd.f5.params.toList ++ Rows.dirFillsSpec.plain.varTypes Tryd.prog) (ds ++ gs)).all (· ≤ reachBytes) = true := hsz0
  have hval : ∀ (j : Nat) t v, Tryd.f5.params[j]? = some t → args[j]? = some v → Value.okWide Tryd.prog W .any base t v := hval0
  have hW' := hW
  obtain ⟨p, q, hA0, hV, rfl, hfz, hnd⟩ := hW
  have hA : DataW.TrodAll enc Tryd.prog W 0 (fun _ => true) true Tryd.f5.params.toList args.toList ds p := hA0
  rw [Tryd.params5] at hA hval hsz
  obtain ⟨v0, vs0, d0, ds0, p0, q0, hargs, rfl, rfl, h0, r0⟩ := trodAll_cons hA
  obtain ⟨v1, vs1, d1, ds1, p1, q1, rfl, rfl, rfl, h1, r1⟩ := trodAll_cons r0
  obtain ⟨rfl, rfl, rfl⟩ := trodAll_nil r1
  obtain rfl : args = #[v0, v1] := by cases args; simp_all
  obtain ⟨rfl, rfl⟩ := trodVars_none hV
  obtain ⟨a0, rfl, rfl, rfl, w0⟩ := open_int Tryd.underlying3 (hval 0 3 v0 rfl rfl) h0
  obtain ⟨a1, rfl, rfl, rfl, w1⟩ := open_int Tryd.underlying3 (hval 1 3 v1 rfl rfl) h1
  clear hA0 hval0
  refine (walk a0 a1 W (of_laid hL) w0 w1).mono fun e W' ⟨he, bel⟩ => ?_
  subst he
  simp only [List.append_nil] at hW'
  exact ⟨_, rfl, _, _, _, [], [], [], hW', (trodAll_cons_mk (shut_bool Tryd.underlying4 _) trodAll_mk0), (trodAll_cons_mk (shut_int Tryd.underlying3 w0) (trodAll_cons_mk (shut_int Tryd.underlying3 w1) trodAll_mk0)), rfl, bel.frame _, fun h => by cases h⟩

theorem over : Rows.dirFillsRow.holds Tryd.pinned (OpenSpec.ofChange Rows.dirFillsSpec) :=
  OpenClaim.holds_of_wide 5 Tryd.f5 rfl rfl rfl rfl rfl rfl rfl ⟨rfl, rfl, rfl, rfl, rfl⟩ rfl rfl rfl rfl rfl (by kernel_rfl) Tryd.func5 (by kernel_rfl)
    (of_decide_eq_true (by kernel_rfl)) (by unfold Func.isWrapper; first | (rw [if_pos (by decide +kernel)]; kernel_rfl) | (rw [if_neg (by decide +kernel)]; exact ⟨rfl, rfl⟩))
    (fun os started H enc _ => lifted os started H enc)

theorem card : Rows.DirFillsCardSaid :=
  Claim7.holds_tied_plain_at .later [] [.data, .pinned] true (true, "b52752b4ad1ea57d169ecc7371ec3f9f9e5e71061f90f46f4a0915212379700a") true
    over (fun _ h => by cases h) (by kernel_rfl) (fun _ h => by cases h) dirFills_row_tie rfl ⟨rfl, rfl⟩ (by kernel_rfl) rfl
    (fun f fn hf hfn => by
      obtain rfl : f = 5 := Option.some.inj ((show Tryd.prog.funcNamed "concourse/concourselaw9.DirFills" = some 5 by kernel_rfl).symm.trans hf) |>.symm
      obtain rfl : fn = Tryd.f5 := (Option.some.inj (Tryd.func5.symm.trans hfn)).symm
      exact ⟨by kernel_rfl, fun j t ht => by
        rw [Tryd.params5] at ht
        have hm : t ∈ [3, 3] := by simpa using Array.mem_of_getElem? ht
        have hall : ([3, 3].all fun u => !Tryd.prog.wantsStandIn u) = true := by kernel_rfl
        exact (show Tryd.prog.wantsStandIn t = false by simpa using List.all_eq_true.1 hall t hm)⟩)
    (by kernel_rfl)

end Go.Proofs.YtnbbcbjfejdceaaDoor.dirFills

namespace Go.Proofs.YtnbbcbjfejdceaaDoor
theorem dirFills_holds : Rows.DirFillsCardSaid := dirFills.card
#print axioms dirFills_holds
end Go.Proofs.YtnbbcbjfejdceaaDoor
