/-
  DirApart: for every list of texts and every list of picks: Finds, Inserts and Removes of names of unlike buckets meet in no word that one of them writes; Find and List read alone (P9.2, T2); no condition beyond the row's own.
-/
import Derived.Test.YtnbbcbjfejdceaaDoorRows
import Derived.Test.YtnbbcbjfejdceaaDoorCards
import Derived.Test.YtnbbcbjfejdceaaDoorTie
import Derived.Test.YtnbbcbjfejdceaaDoorLaid
import Derived.Test.YtnbbcbjfejdceaaDoorSt
import Derived.Test.YtnbbcbjfejdceaaDoorBits
import Derived.WalkKit
import Derived.ProofKit
import Derived.OpenShut
import Derived.ShutString
import Derived.ChangeOld
import Derived.Below
import Derived.Deep.Slices
import Derived.LaidMore
import Derived.Lay
import Derived.SizedLaws
import Derived.Laws.BytesArg
import Derived.Stop.Joined
import Derived.SevenTiedAt
namespace Go.Proofs.YtnbbcbjfejdceaaDoor.dirApart
open Go.ChangeShapes Go.WideShapes Go.ChangeAt Go.RowKit
open Go.ChangeMaps (open_string shut_string)
set_option linter.unusedVariables false

def IsRow (k : IntKind) (w : World) (a : Option Addr) (len cap : Nat) (zs : List Int) : Prop :=
  (a = none ∧ len = 0 ∧ cap = 0 ∧ zs = []) ∨
  ∃ x, a = some x ∧ len ≤ cap ∧ cap ≤ maxLen ∧ zs.length = cap ∧ (∀ i, i < zs.length → w.cell? (x.add i) = some (.int k (zs.getD i 0))) ∧ ∀ n ∈ zs, (Lit.int k n).wf = true

/-- Each core has touched but the buckets of its own number modulo 4. -/
def Ap : Trc → Prop := fun t => ∀ c, c < 4 → ∀ x ∈ t c, x.1 / 12 % 4 = (c : Int)

theorem ap_none {t : Trc} (h : ∀ d, d < 4 → t d = []) : Ap t := fun c hc x hx => by rw [h c hc] at hx; cases hx

theorem ap_put {t : Trc} {c : Nat} {j : Int} {b : Bool} (h : Ap t) (hj : j / 12 % 4 = (c : Int)) : Ap (tput t c (j, b)) := by
  intro d hd x hx
  unfold tput at hx
  by_cases e : d = c
  · rw [if_pos e] at hx
    rcases List.mem_append.1 hx with h1 | h1
    · rw [e]; exact h c (by omega) x h1
    · rw [List.mem_singleton] at h1; rw [h1, e]; exact hj
  · rw [if_neg e] at hx
    exact h d hd x hx

theorem ap_touch {n c : Nat} (hn : n % 4 = c) (hc : c < 4) : Rd Ap c 0 n ∧ Wr Ap c 0 n :=
  ⟨fun q h1 h2 t ht => ap_put ht (by omega), fun q h1 h2 t ht => ap_put ht (by omega)⟩

theorem ap_far {t : Trc} (h : Ap t) {c d : Nat} (hc : c < 4) (hd : d < 4) (hne : d ≠ c) : Far (t c) (t d) := fun x hx y hy => Or.inl fun e => by
  have h1 := h c hc x hx
  have h2 := h d hd y hy
  rw [e] at h1
  omega

theorem clr_more {t : Trc} {c : Nat} (h : ∀ d, d < c → t d = []) {d : Nat} (hd : d < c + 1) : tclr t c d = [] := by
  unfold tclr
  by_cases e : d = c
  · rw [if_pos e]
  · rw [if_neg e]; exact h d (by omega)

/-- Core 1 has only read. -/
def Q1 : Trc → Prop := fun t => ∀ x ∈ t 1, x.2 = false

theorem q1_clear (t : Trc) : Q1 (tclr t 1) := fun x hx => by simp [tclr] at hx

theorem q1_read (n : Nat) : Rd Q1 1 0 n := by
  rintro q _ _ t h x hx
  unfold tput at hx
  rw [if_pos rfl] at hx
  rcases List.mem_append.1 hx with h1 | h1
  · exact h x h1
  · rw [List.mem_singleton] at h1; rw [h1]

set_option maxRecDepth 100000 in
set_option maxHeartbeats 16000000 in
theorem main (a0 : Option Addr) (len0 cap0 : Nat) (ss : Nat → ByteArray) (a1 : Option Addr) (len1 cap1 : Nat) (z1 : List Int) (w : World) (hT : Tab w) (hl : len0 ≤ 9223372036854775807) (hs : IsStrs w a0 len0 ss) (hl1 : len1 ≤ 9223372036854775807) (hp : ∀ i, i < len1 → ∃ bb off, a1 = some ⟨bb, off, none⟩ ∧ w.cell? ⟨bb, off + i, none⟩ = some (.int .i64 (wordAt z1 i))) :
    Calls Tryd.prog 4 #[.slice a0 len0 cap0, .slice a1 len1 cap1] w fun e w' => e = .returned (.bool true) ∧ Kept [] w w' := by
  have HSS : Hid (IsStrs w a0 len0 ss) := hs
  have HPS : Hid (∀ i, i < len1 → ∃ bb off, a1 = some ⟨bb, off, none⟩ ∧ w.cell? ⟨bb, off + i, none⟩ = some (.int .i64 (wordAt z1 i))) := hp
  have HT0 : Hid (Tab w) := hT
  have HIX : Hid (0 < len0 → ∀ v : Int, ∃ i : Nat, i < len0 ∧ ((IntKind.u64.wrap v).tmod (len0 : Int) = (i : Int))) := fun h0 v => by
    have hu : 0 ≤ IntKind.u64.wrap v := by rw [IntKind.wrap_u64]; omega
    rw [Int.tmod_eq_emod_of_nonneg hu]
    have h1 := Int.emod_nonneg (IntKind.u64.wrap v) (show (len0 : Int) ≠ 0 by omega)
    have h2 := Int.emod_lt_of_pos (IntKind.u64.wrap v) (show (0 : Int) < (len0 : Int) by omega)
    exact ⟨(IntKind.u64.wrap v % (len0 : Int)).toNat, by omega, by omega⟩
  clear hs hT hp
  go_enter Tryd.func4, Tryd.ntmps4
  go_wp2_with fail
  refine (awake_dir w HT0.out).mono ?_
  rintro e w1 ⟨rfl, hk1⟩
  have HK : Hid (Kept [] w w1 ∧ Tab w1) := ⟨hk1, Tab.kept HT0.out hk1⟩
  clear hk1 HT0
  go_wp2_with fail
  refine (made_any w1 HK.out.2).mono ?_
  rintro e w2 ⟨b, g, rfl, h2⟩
  have H2 : Hid (∃ E, Dd AnyT [(g, box b 0)] w1 w2 b g 0 4 1024 96 E) := ⟨_, h2⟩
  clear h2
  go_wp2_with fail
  go_loopw [8] (fun i wr => ∃ n : Nat, i = .int .i64 (n : Int) ∧ n ≤ len0 ∧ n ≤ 20 ∧ Hid (∃ E, Dd AnyT [(g, box b 0)] w1 wr b g 0 4 1024 (96 + 15 * n) E)) (fun i _ => (20 - intOf i).toNat)
  case atStart => exact ⟨0, rfl, by omega, by omega, H2.out⟩
  case round =>
    clear H2
    obtain ⟨n, rfl, hn, hn2, HJ⟩ := hrel
    obtain ⟨E, hR⟩ := HJ.out
    have HR : Hid (_) := hR
    clear HJ hR
    by_cases hlt : n < len0 ∧ n < 20
    · obtain ⟨hlt, hlt2⟩ := hlt
      obtain ⟨-, bb, off, rfl, hc0⟩ := HSS.out.2 n hlt
      have hcell := (HK.out.1.trans (Dd.old HR.out) (by simp)).cell hc0 (by simp)
      clear hc0
      have i1 : (0 : Int) ≤ (n : Int) := by omega
      have i2 : (n : Int) < (len0 : Int) := by omega
      have i3 : (n : Int) < 20 := by omega
      go_wp2_with fail
      refine (insert_any HR.out 0 (ss n) ((n : Int) + 1) (by omega) (by omega) (by omega) (by omega) (fun m _ _ => ⟨anyR _ _ m, anyW _ _ m⟩)).mono ?_
      rintro e w4 ⟨z, E', rfl, h4⟩
      have H4 : Hid (_) := h4.mono (show _ ≤ 96 + 15 * (n + 1) by omega)
      clear h4 HR
      go_wp2_with fail
      go_roundw
      case rel => exact ⟨n + 1, by go_num, by omega, by omega, _, H4.out⟩
      case measure => simp [intOf]; omega
    · have HT : Hid (_) := Dd.mono HR.out (show _ ≤ 400 by omega)
      clear HR
      by_cases hx : n < len0
      · have i1 : (n : Int) < (len0 : Int) := by omega
        have i2 : ¬ (n : Int) < 20 := by omega
        go_wp2_with fail
        go_loopw [9] (fun i wr => ∃ c : Nat, i = .int .i64 (c : Int) ∧ c ≤ 4 ∧ Hid (Dd (fun t => ∀ d, d < c → t d = []) [(g, box b 0)] w1 wr b g 0 4 1024 400 E)) (fun i _ => (4 - intOf i).toNat)
        case atStart => exact ⟨0, rfl, by omega, Dd.weak HT.out fun t _ d hd => by omega⟩
        case round =>
          clear HT
          obtain ⟨c, rfl, hc, HC⟩ := hrel
          by_cases hlc : c < 4
          · have j0 : (c : Int) < 4 := by omega
            go_wp2_with fail
            refine (e_clear (I' := fun t => ∀ d, d < c + 1 → t d = []) HC.out c (by omega) (fun t ht d hd => clr_more ht hd)).mono ?_
            rintro e w5 ⟨rfl, h5⟩
            have H5 : Hid (_) := h5
            clear h5 HC
            go_wp2_with fail
            go_roundw
            case rel => exact ⟨c + 1, by go_num, by omega, H5.out⟩
            case measure => simp [intOf]; omega
          · have j0 : ¬ (c : Int) < 4 := by omega
            have H5 : Hid (∃ E, Dd Ap [(g, box b 0)] w1 wr b g 0 4 1024 400 E) := ⟨E, Dd.weak HC.out fun t ht => ap_none (fun d hd => ht d (by omega))⟩
            clear HC
            go_wp2_with fail
            go_loopw [10] (fun i wr => ∃ p : Nat, i = .int .i64 (p : Int) ∧ p ≤ len1 ∧ p ≤ 60 ∧ Hid (∃ E, Dd Ap [(g, box b 0)] w1 wr b g 0 4 1024 (400 + 15 * p) E)) (fun i _ => (60 - intOf i).toNat)
            case atStart => exact ⟨0, rfl, by omega, by omega, H5.out⟩
            case round =>
              clear H5
              obtain ⟨p, rfl, hp, hp2, HJ⟩ := hrel
              obtain ⟨E, hP⟩ := HJ.out
              have HP : Hid (_) := hP
              clear HJ hP
              by_cases k1 : p < len1
              · have j1 : (p : Int) < (len1 : Int) := by omega
                have j2 : (0 : Int) ≤ (p : Int) := by omega
                by_cases k2 : p < 60
                · have j3 : (p : Int) < 60 := by omega
                  by_cases k3 : 0 < len0
                  · have j4 : (0 : Int) < (len0 : Int) := by omega
                    have l3 : ((len0 : Int) == 0) = false := by simp; omega
                    obtain ⟨bb, off, rfl, hc0⟩ := HPS.out p k1
                    have hcell := (HK.out.1.trans (Dd.old HP.out) (by simp)).cell hc0 (by simp)
                    clear hc0
                    obtain ⟨y, hy⟩ : ∃ y, wordAt z1 p = y := ⟨_, rfl⟩
                    rw [hy] at hcell
                    clear hy
                    obtain ⟨i, hi, hix⟩ := HIX.out k3 y
                    obtain ⟨hsz, bs, offs, rfl, hc2⟩ := HSS.out.2 i hi
                    have hcell2 := (HK.out.1.trans (Dd.old HP.out) (by simp)).cell hc2 (by simp)
                    clear hc2
                    obtain ⟨s, hs⟩ : ∃ s, ss i = s := ⟨_, rfl⟩
                    rw [hs] at hcell2 hsz
                    clear hs
                    have l1 : (i : Int) < (len0 : Int) := by omega
                    have l2 : (0 : Int) ≤ (i : Int) := by omega
                    obtain ⟨n, hn8, hn⟩ := bkt_nat s
                    have HN : Hid (bkt s = (n : Int)) := hn
                    clear hn
                    obtain ⟨c3, hc3, b3⟩ : ∃ c : Nat, c < 4 ∧ bits .and .i64 (n : Int) 3 = (c : Int) ∧ n % 4 = c := ⟨n % 4, by omega, by rw [i64_and3]; omega, rfl⟩
                    obtain ⟨b3, hcn⟩ := b3
                    have hA : Rd Ap c3 0 n ∧ Wr Ap c3 0 n := ap_touch hcn hc3
                    have HA : Hid (∀ m : Nat, m < 8 → bkt s = (m : Int) → Rd Ap c3 0 m ∧ Wr Ap c3 0 m) := fun m _ hm => by
                      have e : m = n := by have := HN.out; omega
                      rw [e]; exact hA
                    clear hA
                    go_wp2_with fail
                    refine (f_bucket s wr (by omega)).mono ?_
                    rintro e w5 ⟨rfl, hw5⟩
                    subst hw5
                    have hbk : hashL (rs s 0) 7 % 8 = (n : Int) := HN.out
                    rw [hbk]
                    clear hbk
                    obtain ⟨sw, hsw⟩ : ∃ sw, bits .and .i64 (wrap64 (Int.tdiv y 32)) 3 = sw := ⟨_, rfl⟩
                    by_cases s0 : sw = 0
                    · subst s0
                      go_wp2_with fail
                      refine (find_any HP.out c3 s hc3 (by omega) (fun m h1 h2 => (HA.out m h1 h2).1)).mono ?_
                      rintro e w6 ⟨x, z, rfl, -, h6⟩
                      have H6 : Hid (_) := h6.mono (show _ ≤ 400 + 15 * (p + 1) by omega)
                      clear h6 HP
                      go_wp2_with fail
                      go_roundw
                      case rel => exact ⟨p + 1, by go_num, by omega, by omega, _, H6.out⟩
                      case measure => simp [intOf]; omega
                    · have t0 : (sw == 0) = false := by simpa using s0
                      by_cases s1 : sw = 1
                      · subst s1
                        go_wp2_with fail
                        refine (remove_any HP.out c3 s hc3 (by omega) HA.out).mono ?_
                        rintro e w6 ⟨z, E', rfl, h6⟩
                        have H6 : Hid (_) := h6.mono (show _ ≤ 400 + 15 * (p + 1) by omega)
                        clear h6 HP
                        go_wp2_with fail
                        go_roundw
                        case rel => exact ⟨p + 1, by go_num, by omega, by omega, _, H6.out⟩
                        case measure => simp [intOf]; omega
                      · have t1 : (sw == 1) = false := by simpa using s1
                        go_wp2_with fail
                        refine (insert_any HP.out c3 s 7 hc3 (by omega) (by omega) (by omega) HA.out).mono ?_
                        rintro e w6 ⟨z, E', rfl, h6⟩
                        have H6 : Hid (_) := h6.mono (show _ ≤ 400 + 15 * (p + 1) by omega)
                        clear h6 HP
                        go_wp2_with fail
                        go_roundw
                        case rel => exact ⟨p + 1, by go_num, by omega, by omega, _, H6.out⟩
                        case measure => simp [intOf]; omega
                  · have j4 : ¬ (0 : Int) < (len0 : Int) := by omega
                    have HT : Hid (Dd Ap [(g, box b 0)] w1 wr b g 0 4 1024 2000 E) := Dd.mono HP.out (show _ ≤ 2000 by omega)
                    clear HP
                    go_wp2_with fail
                    go_loopw [13] (fun i wr => ∃ c : Nat, i = .int .i64 (c : Int) ∧ c ≤ 4 ∧ Hid (Dd Ap [(g, box b 0)] w1 wr b g 0 4 1024 2000 E)) (fun i _ => (4 - intOf i).toNat)
                    case atStart => exact ⟨0, rfl, by omega, HT.out⟩
                    case round =>
                      clear HT
                      obtain ⟨c, rfl, hc, HC⟩ := hrel
                      by_cases hlc : c < 4
                      · have j0 : (c : Int) < 4 := by omega
                        go_wp2_with fail
                        go_loopw [14] (fun i wr => ∃ e : Nat, i = .int .i64 (e : Int) ∧ e ≤ c ∧ Hid (Dd Ap [(g, box b 0)] w1 wr b g 0 4 1024 2000 E)) (fun i _ => (c - intOf i).toNat)
                        case atStart => exact ⟨0, rfl, by omega, HC.out⟩
                        case round =>
                          clear HC
                          obtain ⟨d, rfl, hd, HC⟩ := hrel
                          by_cases hld : d < c
                          · have j1 : (d : Int) < (c : Int) := by omega
                            obtain ⟨t, hq, hl, hn⟩ := Dd.now HC.out
                            have HQ : Hid (Ap t ∧ ∀ c, (t c).length ≤ 200000) := ⟨hq, fun c => Nat.le_trans (hl c) (by omega)⟩
                            have HN : Hid (_) := hn
                            clear hq hl hn
                            go_wp2_with fail
                            refine (e_trace HN.out c (by omega) (by omega)).mono ?_
                            rintro e w5 ⟨r1, rfl, hr1, hk1⟩
                            have H5 : Hid (_ ∧ _) := ⟨hr1, hk1⟩
                            obtain ⟨ra, rc, rfl⟩ := hr1.slice
                            clear hr1 hk1
                            go_wp2_with fail
                            refine (e_trace (Dd.still HN.out H5.out.2) d (by omega) (by omega)).mono ?_
                            rintro e w6 ⟨r2, rfl, hr2, hk2⟩
                            have H6 : Hid (_ ∧ _ ∧ _) := ⟨Row.still2 H5.out.1 hk2, hr2, H5.out.2.trans hk2 (by simp)⟩
                            obtain ⟨ra2, rc2, rfl⟩ := hr2.slice
                            clear hr2 hk2 H5
                            go_wp2_with fail
                            refine (meet_any H6.out.1 H6.out.2.1 (HQ.out.2 c) (HQ.out.2 d) (ap_far HQ.out.1 (by omega) (by omega) (by omega))).mono ?_
                            rintro e w7 ⟨rfl, hk3⟩
                            have H7 : Hid (_) := Dd.still HC.out (H6.out.2.2.trans hk3 (by simp))
                            clear hk3 H6 HQ HN HC
                            go_wp2_with fail
                            go_roundw
                            case rel => exact ⟨d + 1, by go_num, by omega, H7.out⟩
                            case measure => simp [intOf]; omega
                          · have j1 : ¬ (d : Int) < (c : Int) := by omega
                            go_wp2_with fail
                            go_roundw
                            case rel => exact ⟨c + 1, by go_num, by omega, HC.out⟩
                            case measure => simp [intOf]; omega
                      · have j0 : ¬ (c : Int) < 4 := by omega
                        go_wp2_with fail
                        refine (e_clear (I' := Q1) HC.out 1 (by omega) (fun t _ => q1_clear t)).mono ?_
                        rintro e w5 ⟨rfl, h5⟩
                        have H5 : Hid (_) := h5
                        clear h5 HC
                        go_wp2_with fail
                        refine (e_list H5.out 1 (by omega) (fun n _ => q1_read n) (by omega)).mono ?_
                        rintro e w6 ⟨u, D, rfl, hu, h6, -⟩
                        have H6 : Hid (_) := h6.fewer (S' := [(g, box b 0)]) (by simp) (by simp)
                        clear h6 hu H5
                        go_wp2_with fail
                        refine (find_any H6.out 1 ⟨#[98]⟩ (by omega) (by omega) (fun n _ _ => q1_read n)).mono ?_
                        rintro e w7 ⟨x, z, rfl, -, h7⟩
                        obtain ⟨t, hq, hl, hn⟩ := h7.now
                        have HQ : Hid (Q1 t ∧ ∀ c, (t c).length ≤ 200000) := ⟨hq, fun c => Nat.le_trans (hl c) (by omega)⟩
                        have H7 : Hid (_) := hn
                        clear h7 H6 hq hl hn
                        go_wp2_with fail
                        refine (e_trace H7.out 1 (by omega) (by omega)).mono ?_
                        rintro e w8 ⟨r3, rfl, hr3, hk4⟩
                        have H8 : Hid (_ ∧ _) := ⟨hr3, Dd.still H7.out hk4⟩
                        obtain ⟨ra3, rc3, rfl⟩ := hr3.slice
                        clear hr3 hk4 H7
                        go_wp2_with fail
                        refine (words_none H8.out.1 (HQ.out.2 1) HQ.out.1).mono ?_
                        rintro e w9 ⟨rfl, hk5⟩
                        have H9 : Hid (Kept [] w w9) := HK.out.1.trans ((Dd.old H8.out.2).trans hk5 (by simp)) (by simp)
                        clear hk5 H8
                        go_wp2_with fail
                        go_ret
                        exact ⟨rfl, H9.out⟩
                · have j3 : ¬ (p : Int) < 60 := by omega
                  have HT : Hid (Dd Ap [(g, box b 0)] w1 wr b g 0 4 1024 2000 E) := Dd.mono HP.out (show _ ≤ 2000 by omega)
                  clear HP
                  go_wp2_with fail
                  go_loopw [13] (fun i wr => ∃ c : Nat, i = .int .i64 (c : Int) ∧ c ≤ 4 ∧ Hid (Dd Ap [(g, box b 0)] w1 wr b g 0 4 1024 2000 E)) (fun i _ => (4 - intOf i).toNat)
                  case atStart => exact ⟨0, rfl, by omega, HT.out⟩
                  case round =>
                    clear HT
                    obtain ⟨c, rfl, hc, HC⟩ := hrel
                    by_cases hlc : c < 4
                    · have j0 : (c : Int) < 4 := by omega
                      go_wp2_with fail
                      go_loopw [14] (fun i wr => ∃ e : Nat, i = .int .i64 (e : Int) ∧ e ≤ c ∧ Hid (Dd Ap [(g, box b 0)] w1 wr b g 0 4 1024 2000 E)) (fun i _ => (c - intOf i).toNat)
                      case atStart => exact ⟨0, rfl, by omega, HC.out⟩
                      case round =>
                        clear HC
                        obtain ⟨d, rfl, hd, HC⟩ := hrel
                        by_cases hld : d < c
                        · have j1 : (d : Int) < (c : Int) := by omega
                          obtain ⟨t, hq, hl, hn⟩ := Dd.now HC.out
                          have HQ : Hid (Ap t ∧ ∀ c, (t c).length ≤ 200000) := ⟨hq, fun c => Nat.le_trans (hl c) (by omega)⟩
                          have HN : Hid (_) := hn
                          clear hq hl hn
                          go_wp2_with fail
                          refine (e_trace HN.out c (by omega) (by omega)).mono ?_
                          rintro e w5 ⟨r1, rfl, hr1, hk1⟩
                          have H5 : Hid (_ ∧ _) := ⟨hr1, hk1⟩
                          obtain ⟨ra, rc, rfl⟩ := hr1.slice
                          clear hr1 hk1
                          go_wp2_with fail
                          refine (e_trace (Dd.still HN.out H5.out.2) d (by omega) (by omega)).mono ?_
                          rintro e w6 ⟨r2, rfl, hr2, hk2⟩
                          have H6 : Hid (_ ∧ _ ∧ _) := ⟨Row.still2 H5.out.1 hk2, hr2, H5.out.2.trans hk2 (by simp)⟩
                          obtain ⟨ra2, rc2, rfl⟩ := hr2.slice
                          clear hr2 hk2 H5
                          go_wp2_with fail
                          refine (meet_any H6.out.1 H6.out.2.1 (HQ.out.2 c) (HQ.out.2 d) (ap_far HQ.out.1 (by omega) (by omega) (by omega))).mono ?_
                          rintro e w7 ⟨rfl, hk3⟩
                          have H7 : Hid (_) := Dd.still HC.out (H6.out.2.2.trans hk3 (by simp))
                          clear hk3 H6 HQ HN HC
                          go_wp2_with fail
                          go_roundw
                          case rel => exact ⟨d + 1, by go_num, by omega, H7.out⟩
                          case measure => simp [intOf]; omega
                        · have j1 : ¬ (d : Int) < (c : Int) := by omega
                          go_wp2_with fail
                          go_roundw
                          case rel => exact ⟨c + 1, by go_num, by omega, HC.out⟩
                          case measure => simp [intOf]; omega
                    · have j0 : ¬ (c : Int) < 4 := by omega
                      go_wp2_with fail
                      refine (e_clear (I' := Q1) HC.out 1 (by omega) (fun t _ => q1_clear t)).mono ?_
                      rintro e w5 ⟨rfl, h5⟩
                      have H5 : Hid (_) := h5
                      clear h5 HC
                      go_wp2_with fail
                      refine (e_list H5.out 1 (by omega) (fun n _ => q1_read n) (by omega)).mono ?_
                      rintro e w6 ⟨u, D, rfl, hu, h6, -⟩
                      have H6 : Hid (_) := h6.fewer (S' := [(g, box b 0)]) (by simp) (by simp)
                      clear h6 hu H5
                      go_wp2_with fail
                      refine (find_any H6.out 1 ⟨#[98]⟩ (by omega) (by omega) (fun n _ _ => q1_read n)).mono ?_
                      rintro e w7 ⟨x, z, rfl, -, h7⟩
                      obtain ⟨t, hq, hl, hn⟩ := h7.now
                      have HQ : Hid (Q1 t ∧ ∀ c, (t c).length ≤ 200000) := ⟨hq, fun c => Nat.le_trans (hl c) (by omega)⟩
                      have H7 : Hid (_) := hn
                      clear h7 H6 hq hl hn
                      go_wp2_with fail
                      refine (e_trace H7.out 1 (by omega) (by omega)).mono ?_
                      rintro e w8 ⟨r3, rfl, hr3, hk4⟩
                      have H8 : Hid (_ ∧ _) := ⟨hr3, Dd.still H7.out hk4⟩
                      obtain ⟨ra3, rc3, rfl⟩ := hr3.slice
                      clear hr3 hk4 H7
                      go_wp2_with fail
                      refine (words_none H8.out.1 (HQ.out.2 1) HQ.out.1).mono ?_
                      rintro e w9 ⟨rfl, hk5⟩
                      have H9 : Hid (Kept [] w w9) := HK.out.1.trans ((Dd.old H8.out.2).trans hk5 (by simp)) (by simp)
                      clear hk5 H8
                      go_wp2_with fail
                      go_ret
                      exact ⟨rfl, H9.out⟩
              · have j1 : ¬ (p : Int) < (len1 : Int) := by omega
                have HT : Hid (Dd Ap [(g, box b 0)] w1 wr b g 0 4 1024 2000 E) := Dd.mono HP.out (show _ ≤ 2000 by omega)
                clear HP
                go_wp2_with fail
                go_loopw [13] (fun i wr => ∃ c : Nat, i = .int .i64 (c : Int) ∧ c ≤ 4 ∧ Hid (Dd Ap [(g, box b 0)] w1 wr b g 0 4 1024 2000 E)) (fun i _ => (4 - intOf i).toNat)
                case atStart => exact ⟨0, rfl, by omega, HT.out⟩
                case round =>
                  clear HT
                  obtain ⟨c, rfl, hc, HC⟩ := hrel
                  by_cases hlc : c < 4
                  · have j0 : (c : Int) < 4 := by omega
                    go_wp2_with fail
                    go_loopw [14] (fun i wr => ∃ e : Nat, i = .int .i64 (e : Int) ∧ e ≤ c ∧ Hid (Dd Ap [(g, box b 0)] w1 wr b g 0 4 1024 2000 E)) (fun i _ => (c - intOf i).toNat)
                    case atStart => exact ⟨0, rfl, by omega, HC.out⟩
                    case round =>
                      clear HC
                      obtain ⟨d, rfl, hd, HC⟩ := hrel
                      by_cases hld : d < c
                      · have j1 : (d : Int) < (c : Int) := by omega
                        obtain ⟨t, hq, hl, hn⟩ := Dd.now HC.out
                        have HQ : Hid (Ap t ∧ ∀ c, (t c).length ≤ 200000) := ⟨hq, fun c => Nat.le_trans (hl c) (by omega)⟩
                        have HN : Hid (_) := hn
                        clear hq hl hn
                        go_wp2_with fail
                        refine (e_trace HN.out c (by omega) (by omega)).mono ?_
                        rintro e w5 ⟨r1, rfl, hr1, hk1⟩
                        have H5 : Hid (_ ∧ _) := ⟨hr1, hk1⟩
                        obtain ⟨ra, rc, rfl⟩ := hr1.slice
                        clear hr1 hk1
                        go_wp2_with fail
                        refine (e_trace (Dd.still HN.out H5.out.2) d (by omega) (by omega)).mono ?_
                        rintro e w6 ⟨r2, rfl, hr2, hk2⟩
                        have H6 : Hid (_ ∧ _ ∧ _) := ⟨Row.still2 H5.out.1 hk2, hr2, H5.out.2.trans hk2 (by simp)⟩
                        obtain ⟨ra2, rc2, rfl⟩ := hr2.slice
                        clear hr2 hk2 H5
                        go_wp2_with fail
                        refine (meet_any H6.out.1 H6.out.2.1 (HQ.out.2 c) (HQ.out.2 d) (ap_far HQ.out.1 (by omega) (by omega) (by omega))).mono ?_
                        rintro e w7 ⟨rfl, hk3⟩
                        have H7 : Hid (_) := Dd.still HC.out (H6.out.2.2.trans hk3 (by simp))
                        clear hk3 H6 HQ HN HC
                        go_wp2_with fail
                        go_roundw
                        case rel => exact ⟨d + 1, by go_num, by omega, H7.out⟩
                        case measure => simp [intOf]; omega
                      · have j1 : ¬ (d : Int) < (c : Int) := by omega
                        go_wp2_with fail
                        go_roundw
                        case rel => exact ⟨c + 1, by go_num, by omega, HC.out⟩
                        case measure => simp [intOf]; omega
                  · have j0 : ¬ (c : Int) < 4 := by omega
                    go_wp2_with fail
                    refine (e_clear (I' := Q1) HC.out 1 (by omega) (fun t _ => q1_clear t)).mono ?_
                    rintro e w5 ⟨rfl, h5⟩
                    have H5 : Hid (_) := h5
                    clear h5 HC
                    go_wp2_with fail
                    refine (e_list H5.out 1 (by omega) (fun n _ => q1_read n) (by omega)).mono ?_
                    rintro e w6 ⟨u, D, rfl, hu, h6, -⟩
                    have H6 : Hid (_) := h6.fewer (S' := [(g, box b 0)]) (by simp) (by simp)
                    clear h6 hu H5
                    go_wp2_with fail
                    refine (find_any H6.out 1 ⟨#[98]⟩ (by omega) (by omega) (fun n _ _ => q1_read n)).mono ?_
                    rintro e w7 ⟨x, z, rfl, -, h7⟩
                    obtain ⟨t, hq, hl, hn⟩ := h7.now
                    have HQ : Hid (Q1 t ∧ ∀ c, (t c).length ≤ 200000) := ⟨hq, fun c => Nat.le_trans (hl c) (by omega)⟩
                    have H7 : Hid (_) := hn
                    clear h7 H6 hq hl hn
                    go_wp2_with fail
                    refine (e_trace H7.out 1 (by omega) (by omega)).mono ?_
                    rintro e w8 ⟨r3, rfl, hr3, hk4⟩
                    have H8 : Hid (_ ∧ _) := ⟨hr3, Dd.still H7.out hk4⟩
                    obtain ⟨ra3, rc3, rfl⟩ := hr3.slice
                    clear hr3 hk4 H7
                    go_wp2_with fail
                    refine (words_none H8.out.1 (HQ.out.2 1) HQ.out.1).mono ?_
                    rintro e w9 ⟨rfl, hk5⟩
                    have H9 : Hid (Kept [] w w9) := HK.out.1.trans ((Dd.old H8.out.2).trans hk5 (by simp)) (by simp)
                    clear hk5 H8
                    go_wp2_with fail
                    go_ret
                    exact ⟨rfl, H9.out⟩
      · have i1 : ¬ (n : Int) < (len0 : Int) := by omega
        go_wp2_with fail
        go_loopw [9] (fun i wr => ∃ c : Nat, i = .int .i64 (c : Int) ∧ c ≤ 4 ∧ Hid (Dd (fun t => ∀ d, d < c → t d = []) [(g, box b 0)] w1 wr b g 0 4 1024 400 E)) (fun i _ => (4 - intOf i).toNat)
        case atStart => exact ⟨0, rfl, by omega, Dd.weak HT.out fun t _ d hd => by omega⟩
        case round =>
          clear HT
          obtain ⟨c, rfl, hc, HC⟩ := hrel
          by_cases hlc : c < 4
          · have j0 : (c : Int) < 4 := by omega
            go_wp2_with fail
            refine (e_clear (I' := fun t => ∀ d, d < c + 1 → t d = []) HC.out c (by omega) (fun t ht d hd => clr_more ht hd)).mono ?_
            rintro e w5 ⟨rfl, h5⟩
            have H5 : Hid (_) := h5
            clear h5 HC
            go_wp2_with fail
            go_roundw
            case rel => exact ⟨c + 1, by go_num, by omega, H5.out⟩
            case measure => simp [intOf]; omega
          · have j0 : ¬ (c : Int) < 4 := by omega
            have H5 : Hid (∃ E, Dd Ap [(g, box b 0)] w1 wr b g 0 4 1024 400 E) := ⟨E, Dd.weak HC.out fun t ht => ap_none (fun d hd => ht d (by omega))⟩
            clear HC
            go_wp2_with fail
            go_loopw [10] (fun i wr => ∃ p : Nat, i = .int .i64 (p : Int) ∧ p ≤ len1 ∧ p ≤ 60 ∧ Hid (∃ E, Dd Ap [(g, box b 0)] w1 wr b g 0 4 1024 (400 + 15 * p) E)) (fun i _ => (60 - intOf i).toNat)
            case atStart => exact ⟨0, rfl, by omega, by omega, H5.out⟩
            case round =>
              clear H5
              obtain ⟨p, rfl, hp, hp2, HJ⟩ := hrel
              obtain ⟨E, hP⟩ := HJ.out
              have HP : Hid (_) := hP
              clear HJ hP
              by_cases k1 : p < len1
              · have j1 : (p : Int) < (len1 : Int) := by omega
                have j2 : (0 : Int) ≤ (p : Int) := by omega
                by_cases k2 : p < 60
                · have j3 : (p : Int) < 60 := by omega
                  by_cases k3 : 0 < len0
                  · have j4 : (0 : Int) < (len0 : Int) := by omega
                    have l3 : ((len0 : Int) == 0) = false := by simp; omega
                    obtain ⟨bb, off, rfl, hc0⟩ := HPS.out p k1
                    have hcell := (HK.out.1.trans (Dd.old HP.out) (by simp)).cell hc0 (by simp)
                    clear hc0
                    obtain ⟨y, hy⟩ : ∃ y, wordAt z1 p = y := ⟨_, rfl⟩
                    rw [hy] at hcell
                    clear hy
                    obtain ⟨i, hi, hix⟩ := HIX.out k3 y
                    obtain ⟨hsz, bs, offs, rfl, hc2⟩ := HSS.out.2 i hi
                    have hcell2 := (HK.out.1.trans (Dd.old HP.out) (by simp)).cell hc2 (by simp)
                    clear hc2
                    obtain ⟨s, hs⟩ : ∃ s, ss i = s := ⟨_, rfl⟩
                    rw [hs] at hcell2 hsz
                    clear hs
                    have l1 : (i : Int) < (len0 : Int) := by omega
                    have l2 : (0 : Int) ≤ (i : Int) := by omega
                    obtain ⟨n, hn8, hn⟩ := bkt_nat s
                    have HN : Hid (bkt s = (n : Int)) := hn
                    clear hn
                    obtain ⟨c3, hc3, b3⟩ : ∃ c : Nat, c < 4 ∧ bits .and .i64 (n : Int) 3 = (c : Int) ∧ n % 4 = c := ⟨n % 4, by omega, by rw [i64_and3]; omega, rfl⟩
                    obtain ⟨b3, hcn⟩ := b3
                    have hA : Rd Ap c3 0 n ∧ Wr Ap c3 0 n := ap_touch hcn hc3
                    have HA : Hid (∀ m : Nat, m < 8 → bkt s = (m : Int) → Rd Ap c3 0 m ∧ Wr Ap c3 0 m) := fun m _ hm => by
                      have e : m = n := by have := HN.out; omega
                      rw [e]; exact hA
                    clear hA
                    go_wp2_with fail
                    refine (f_bucket s wr (by omega)).mono ?_
                    rintro e w5 ⟨rfl, hw5⟩
                    subst hw5
                    have hbk : hashL (rs s 0) 7 % 8 = (n : Int) := HN.out
                    rw [hbk]
                    clear hbk
                    obtain ⟨sw, hsw⟩ : ∃ sw, bits .and .i64 (wrap64 (Int.tdiv y 32)) 3 = sw := ⟨_, rfl⟩
                    by_cases s0 : sw = 0
                    · subst s0
                      go_wp2_with fail
                      refine (find_any HP.out c3 s hc3 (by omega) (fun m h1 h2 => (HA.out m h1 h2).1)).mono ?_
                      rintro e w6 ⟨x, z, rfl, -, h6⟩
                      have H6 : Hid (_) := h6.mono (show _ ≤ 400 + 15 * (p + 1) by omega)
                      clear h6 HP
                      go_wp2_with fail
                      go_roundw
                      case rel => exact ⟨p + 1, by go_num, by omega, by omega, _, H6.out⟩
                      case measure => simp [intOf]; omega
                    · have t0 : (sw == 0) = false := by simpa using s0
                      by_cases s1 : sw = 1
                      · subst s1
                        go_wp2_with fail
                        refine (remove_any HP.out c3 s hc3 (by omega) HA.out).mono ?_
                        rintro e w6 ⟨z, E', rfl, h6⟩
                        have H6 : Hid (_) := h6.mono (show _ ≤ 400 + 15 * (p + 1) by omega)
                        clear h6 HP
                        go_wp2_with fail
                        go_roundw
                        case rel => exact ⟨p + 1, by go_num, by omega, by omega, _, H6.out⟩
                        case measure => simp [intOf]; omega
                      · have t1 : (sw == 1) = false := by simpa using s1
                        go_wp2_with fail
                        refine (insert_any HP.out c3 s 7 hc3 (by omega) (by omega) (by omega) HA.out).mono ?_
                        rintro e w6 ⟨z, E', rfl, h6⟩
                        have H6 : Hid (_) := h6.mono (show _ ≤ 400 + 15 * (p + 1) by omega)
                        clear h6 HP
                        go_wp2_with fail
                        go_roundw
                        case rel => exact ⟨p + 1, by go_num, by omega, by omega, _, H6.out⟩
                        case measure => simp [intOf]; omega
                  · have j4 : ¬ (0 : Int) < (len0 : Int) := by omega
                    have HT : Hid (Dd Ap [(g, box b 0)] w1 wr b g 0 4 1024 2000 E) := Dd.mono HP.out (show _ ≤ 2000 by omega)
                    clear HP
                    go_wp2_with fail
                    go_loopw [13] (fun i wr => ∃ c : Nat, i = .int .i64 (c : Int) ∧ c ≤ 4 ∧ Hid (Dd Ap [(g, box b 0)] w1 wr b g 0 4 1024 2000 E)) (fun i _ => (4 - intOf i).toNat)
                    case atStart => exact ⟨0, rfl, by omega, HT.out⟩
                    case round =>
                      clear HT
                      obtain ⟨c, rfl, hc, HC⟩ := hrel
                      by_cases hlc : c < 4
                      · have j0 : (c : Int) < 4 := by omega
                        go_wp2_with fail
                        go_loopw [14] (fun i wr => ∃ e : Nat, i = .int .i64 (e : Int) ∧ e ≤ c ∧ Hid (Dd Ap [(g, box b 0)] w1 wr b g 0 4 1024 2000 E)) (fun i _ => (c - intOf i).toNat)
                        case atStart => exact ⟨0, rfl, by omega, HC.out⟩
                        case round =>
                          clear HC
                          obtain ⟨d, rfl, hd, HC⟩ := hrel
                          by_cases hld : d < c
                          · have j1 : (d : Int) < (c : Int) := by omega
                            obtain ⟨t, hq, hl, hn⟩ := Dd.now HC.out
                            have HQ : Hid (Ap t ∧ ∀ c, (t c).length ≤ 200000) := ⟨hq, fun c => Nat.le_trans (hl c) (by omega)⟩
                            have HN : Hid (_) := hn
                            clear hq hl hn
                            go_wp2_with fail
                            refine (e_trace HN.out c (by omega) (by omega)).mono ?_
                            rintro e w5 ⟨r1, rfl, hr1, hk1⟩
                            have H5 : Hid (_ ∧ _) := ⟨hr1, hk1⟩
                            obtain ⟨ra, rc, rfl⟩ := hr1.slice
                            clear hr1 hk1
                            go_wp2_with fail
                            refine (e_trace (Dd.still HN.out H5.out.2) d (by omega) (by omega)).mono ?_
                            rintro e w6 ⟨r2, rfl, hr2, hk2⟩
                            have H6 : Hid (_ ∧ _ ∧ _) := ⟨Row.still2 H5.out.1 hk2, hr2, H5.out.2.trans hk2 (by simp)⟩
                            obtain ⟨ra2, rc2, rfl⟩ := hr2.slice
                            clear hr2 hk2 H5
                            go_wp2_with fail
                            refine (meet_any H6.out.1 H6.out.2.1 (HQ.out.2 c) (HQ.out.2 d) (ap_far HQ.out.1 (by omega) (by omega) (by omega))).mono ?_
                            rintro e w7 ⟨rfl, hk3⟩
                            have H7 : Hid (_) := Dd.still HC.out (H6.out.2.2.trans hk3 (by simp))
                            clear hk3 H6 HQ HN HC
                            go_wp2_with fail
                            go_roundw
                            case rel => exact ⟨d + 1, by go_num, by omega, H7.out⟩
                            case measure => simp [intOf]; omega
                          · have j1 : ¬ (d : Int) < (c : Int) := by omega
                            go_wp2_with fail
                            go_roundw
                            case rel => exact ⟨c + 1, by go_num, by omega, HC.out⟩
                            case measure => simp [intOf]; omega
                      · have j0 : ¬ (c : Int) < 4 := by omega
                        go_wp2_with fail
                        refine (e_clear (I' := Q1) HC.out 1 (by omega) (fun t _ => q1_clear t)).mono ?_
                        rintro e w5 ⟨rfl, h5⟩
                        have H5 : Hid (_) := h5
                        clear h5 HC
                        go_wp2_with fail
                        refine (e_list H5.out 1 (by omega) (fun n _ => q1_read n) (by omega)).mono ?_
                        rintro e w6 ⟨u, D, rfl, hu, h6, -⟩
                        have H6 : Hid (_) := h6.fewer (S' := [(g, box b 0)]) (by simp) (by simp)
                        clear h6 hu H5
                        go_wp2_with fail
                        refine (find_any H6.out 1 ⟨#[98]⟩ (by omega) (by omega) (fun n _ _ => q1_read n)).mono ?_
                        rintro e w7 ⟨x, z, rfl, -, h7⟩
                        obtain ⟨t, hq, hl, hn⟩ := h7.now
                        have HQ : Hid (Q1 t ∧ ∀ c, (t c).length ≤ 200000) := ⟨hq, fun c => Nat.le_trans (hl c) (by omega)⟩
                        have H7 : Hid (_) := hn
                        clear h7 H6 hq hl hn
                        go_wp2_with fail
                        refine (e_trace H7.out 1 (by omega) (by omega)).mono ?_
                        rintro e w8 ⟨r3, rfl, hr3, hk4⟩
                        have H8 : Hid (_ ∧ _) := ⟨hr3, Dd.still H7.out hk4⟩
                        obtain ⟨ra3, rc3, rfl⟩ := hr3.slice
                        clear hr3 hk4 H7
                        go_wp2_with fail
                        refine (words_none H8.out.1 (HQ.out.2 1) HQ.out.1).mono ?_
                        rintro e w9 ⟨rfl, hk5⟩
                        have H9 : Hid (Kept [] w w9) := HK.out.1.trans ((Dd.old H8.out.2).trans hk5 (by simp)) (by simp)
                        clear hk5 H8
                        go_wp2_with fail
                        go_ret
                        exact ⟨rfl, H9.out⟩
                · have j3 : ¬ (p : Int) < 60 := by omega
                  have HT : Hid (Dd Ap [(g, box b 0)] w1 wr b g 0 4 1024 2000 E) := Dd.mono HP.out (show _ ≤ 2000 by omega)
                  clear HP
                  go_wp2_with fail
                  go_loopw [13] (fun i wr => ∃ c : Nat, i = .int .i64 (c : Int) ∧ c ≤ 4 ∧ Hid (Dd Ap [(g, box b 0)] w1 wr b g 0 4 1024 2000 E)) (fun i _ => (4 - intOf i).toNat)
                  case atStart => exact ⟨0, rfl, by omega, HT.out⟩
                  case round =>
                    clear HT
                    obtain ⟨c, rfl, hc, HC⟩ := hrel
                    by_cases hlc : c < 4
                    · have j0 : (c : Int) < 4 := by omega
                      go_wp2_with fail
                      go_loopw [14] (fun i wr => ∃ e : Nat, i = .int .i64 (e : Int) ∧ e ≤ c ∧ Hid (Dd Ap [(g, box b 0)] w1 wr b g 0 4 1024 2000 E)) (fun i _ => (c - intOf i).toNat)
                      case atStart => exact ⟨0, rfl, by omega, HC.out⟩
                      case round =>
                        clear HC
                        obtain ⟨d, rfl, hd, HC⟩ := hrel
                        by_cases hld : d < c
                        · have j1 : (d : Int) < (c : Int) := by omega
                          obtain ⟨t, hq, hl, hn⟩ := Dd.now HC.out
                          have HQ : Hid (Ap t ∧ ∀ c, (t c).length ≤ 200000) := ⟨hq, fun c => Nat.le_trans (hl c) (by omega)⟩
                          have HN : Hid (_) := hn
                          clear hq hl hn
                          go_wp2_with fail
                          refine (e_trace HN.out c (by omega) (by omega)).mono ?_
                          rintro e w5 ⟨r1, rfl, hr1, hk1⟩
                          have H5 : Hid (_ ∧ _) := ⟨hr1, hk1⟩
                          obtain ⟨ra, rc, rfl⟩ := hr1.slice
                          clear hr1 hk1
                          go_wp2_with fail
                          refine (e_trace (Dd.still HN.out H5.out.2) d (by omega) (by omega)).mono ?_
                          rintro e w6 ⟨r2, rfl, hr2, hk2⟩
                          have H6 : Hid (_ ∧ _ ∧ _) := ⟨Row.still2 H5.out.1 hk2, hr2, H5.out.2.trans hk2 (by simp)⟩
                          obtain ⟨ra2, rc2, rfl⟩ := hr2.slice
                          clear hr2 hk2 H5
                          go_wp2_with fail
                          refine (meet_any H6.out.1 H6.out.2.1 (HQ.out.2 c) (HQ.out.2 d) (ap_far HQ.out.1 (by omega) (by omega) (by omega))).mono ?_
                          rintro e w7 ⟨rfl, hk3⟩
                          have H7 : Hid (_) := Dd.still HC.out (H6.out.2.2.trans hk3 (by simp))
                          clear hk3 H6 HQ HN HC
                          go_wp2_with fail
                          go_roundw
                          case rel => exact ⟨d + 1, by go_num, by omega, H7.out⟩
                          case measure => simp [intOf]; omega
                        · have j1 : ¬ (d : Int) < (c : Int) := by omega
                          go_wp2_with fail
                          go_roundw
                          case rel => exact ⟨c + 1, by go_num, by omega, HC.out⟩
                          case measure => simp [intOf]; omega
                    · have j0 : ¬ (c : Int) < 4 := by omega
                      go_wp2_with fail
                      refine (e_clear (I' := Q1) HC.out 1 (by omega) (fun t _ => q1_clear t)).mono ?_
                      rintro e w5 ⟨rfl, h5⟩
                      have H5 : Hid (_) := h5
                      clear h5 HC
                      go_wp2_with fail
                      refine (e_list H5.out 1 (by omega) (fun n _ => q1_read n) (by omega)).mono ?_
                      rintro e w6 ⟨u, D, rfl, hu, h6, -⟩
                      have H6 : Hid (_) := h6.fewer (S' := [(g, box b 0)]) (by simp) (by simp)
                      clear h6 hu H5
                      go_wp2_with fail
                      refine (find_any H6.out 1 ⟨#[98]⟩ (by omega) (by omega) (fun n _ _ => q1_read n)).mono ?_
                      rintro e w7 ⟨x, z, rfl, -, h7⟩
                      obtain ⟨t, hq, hl, hn⟩ := h7.now
                      have HQ : Hid (Q1 t ∧ ∀ c, (t c).length ≤ 200000) := ⟨hq, fun c => Nat.le_trans (hl c) (by omega)⟩
                      have H7 : Hid (_) := hn
                      clear h7 H6 hq hl hn
                      go_wp2_with fail
                      refine (e_trace H7.out 1 (by omega) (by omega)).mono ?_
                      rintro e w8 ⟨r3, rfl, hr3, hk4⟩
                      have H8 : Hid (_ ∧ _) := ⟨hr3, Dd.still H7.out hk4⟩
                      obtain ⟨ra3, rc3, rfl⟩ := hr3.slice
                      clear hr3 hk4 H7
                      go_wp2_with fail
                      refine (words_none H8.out.1 (HQ.out.2 1) HQ.out.1).mono ?_
                      rintro e w9 ⟨rfl, hk5⟩
                      have H9 : Hid (Kept [] w w9) := HK.out.1.trans ((Dd.old H8.out.2).trans hk5 (by simp)) (by simp)
                      clear hk5 H8
                      go_wp2_with fail
                      go_ret
                      exact ⟨rfl, H9.out⟩
              · have j1 : ¬ (p : Int) < (len1 : Int) := by omega
                have HT : Hid (Dd Ap [(g, box b 0)] w1 wr b g 0 4 1024 2000 E) := Dd.mono HP.out (show _ ≤ 2000 by omega)
                clear HP
                go_wp2_with fail
                go_loopw [13] (fun i wr => ∃ c : Nat, i = .int .i64 (c : Int) ∧ c ≤ 4 ∧ Hid (Dd Ap [(g, box b 0)] w1 wr b g 0 4 1024 2000 E)) (fun i _ => (4 - intOf i).toNat)
                case atStart => exact ⟨0, rfl, by omega, HT.out⟩
                case round =>
                  clear HT
                  obtain ⟨c, rfl, hc, HC⟩ := hrel
                  by_cases hlc : c < 4
                  · have j0 : (c : Int) < 4 := by omega
                    go_wp2_with fail
                    go_loopw [14] (fun i wr => ∃ e : Nat, i = .int .i64 (e : Int) ∧ e ≤ c ∧ Hid (Dd Ap [(g, box b 0)] w1 wr b g 0 4 1024 2000 E)) (fun i _ => (c - intOf i).toNat)
                    case atStart => exact ⟨0, rfl, by omega, HC.out⟩
                    case round =>
                      clear HC
                      obtain ⟨d, rfl, hd, HC⟩ := hrel
                      by_cases hld : d < c
                      · have j1 : (d : Int) < (c : Int) := by omega
                        obtain ⟨t, hq, hl, hn⟩ := Dd.now HC.out
                        have HQ : Hid (Ap t ∧ ∀ c, (t c).length ≤ 200000) := ⟨hq, fun c => Nat.le_trans (hl c) (by omega)⟩
                        have HN : Hid (_) := hn
                        clear hq hl hn
                        go_wp2_with fail
                        refine (e_trace HN.out c (by omega) (by omega)).mono ?_
                        rintro e w5 ⟨r1, rfl, hr1, hk1⟩
                        have H5 : Hid (_ ∧ _) := ⟨hr1, hk1⟩
                        obtain ⟨ra, rc, rfl⟩ := hr1.slice
                        clear hr1 hk1
                        go_wp2_with fail
                        refine (e_trace (Dd.still HN.out H5.out.2) d (by omega) (by omega)).mono ?_
                        rintro e w6 ⟨r2, rfl, hr2, hk2⟩
                        have H6 : Hid (_ ∧ _ ∧ _) := ⟨Row.still2 H5.out.1 hk2, hr2, H5.out.2.trans hk2 (by simp)⟩
                        obtain ⟨ra2, rc2, rfl⟩ := hr2.slice
                        clear hr2 hk2 H5
                        go_wp2_with fail
                        refine (meet_any H6.out.1 H6.out.2.1 (HQ.out.2 c) (HQ.out.2 d) (ap_far HQ.out.1 (by omega) (by omega) (by omega))).mono ?_
                        rintro e w7 ⟨rfl, hk3⟩
                        have H7 : Hid (_) := Dd.still HC.out (H6.out.2.2.trans hk3 (by simp))
                        clear hk3 H6 HQ HN HC
                        go_wp2_with fail
                        go_roundw
                        case rel => exact ⟨d + 1, by go_num, by omega, H7.out⟩
                        case measure => simp [intOf]; omega
                      · have j1 : ¬ (d : Int) < (c : Int) := by omega
                        go_wp2_with fail
                        go_roundw
                        case rel => exact ⟨c + 1, by go_num, by omega, HC.out⟩
                        case measure => simp [intOf]; omega
                  · have j0 : ¬ (c : Int) < 4 := by omega
                    go_wp2_with fail
                    refine (e_clear (I' := Q1) HC.out 1 (by omega) (fun t _ => q1_clear t)).mono ?_
                    rintro e w5 ⟨rfl, h5⟩
                    have H5 : Hid (_) := h5
                    clear h5 HC
                    go_wp2_with fail
                    refine (e_list H5.out 1 (by omega) (fun n _ => q1_read n) (by omega)).mono ?_
                    rintro e w6 ⟨u, D, rfl, hu, h6, -⟩
                    have H6 : Hid (_) := h6.fewer (S' := [(g, box b 0)]) (by simp) (by simp)
                    clear h6 hu H5
                    go_wp2_with fail
                    refine (find_any H6.out 1 ⟨#[98]⟩ (by omega) (by omega) (fun n _ _ => q1_read n)).mono ?_
                    rintro e w7 ⟨x, z, rfl, -, h7⟩
                    obtain ⟨t, hq, hl, hn⟩ := h7.now
                    have HQ : Hid (Q1 t ∧ ∀ c, (t c).length ≤ 200000) := ⟨hq, fun c => Nat.le_trans (hl c) (by omega)⟩
                    have H7 : Hid (_) := hn
                    clear h7 H6 hq hl hn
                    go_wp2_with fail
                    refine (e_trace H7.out 1 (by omega) (by omega)).mono ?_
                    rintro e w8 ⟨r3, rfl, hr3, hk4⟩
                    have H8 : Hid (_ ∧ _) := ⟨hr3, Dd.still H7.out hk4⟩
                    obtain ⟨ra3, rc3, rfl⟩ := hr3.slice
                    clear hr3 hk4 H7
                    go_wp2_with fail
                    refine (words_none H8.out.1 (HQ.out.2 1) HQ.out.1).mono ?_
                    rintro e w9 ⟨rfl, hk5⟩
                    have H9 : Hid (Kept [] w w9) := HK.out.1.trans ((Dd.old H8.out.2).trans hk5 (by simp)) (by simp)
                    clear hk5 H8
                    go_wp2_with fail
                    go_ret
                    exact ⟨rfl, H9.out⟩

theorem walk (a0 : Option Addr) (len0 cap0 : Nat) (ss : Nat → ByteArray) (a1 : Option Addr) (len1 cap1 : Nat) (z1 : List Int) (w : World) (hT : Tab w) (hs : IsStrs w a0 len0 ss) (w0 : IsRow .i64 w a1 len1 cap1 z1) :
    Calls Tryd.prog 4 #[.slice a0 len0 cap0, .slice a1 len1 cap1] w fun e w' => e = .returned (.bool true) ∧ Below w.heap.size w w' := by
  have hlen : len1 ≤ 9223372036854775807 := by
    rcases w0 with ⟨_, h1, _, _⟩ | ⟨x, rfl, hl, hm, hz, hcell, _⟩
    · omega
    · unfold maxLen at hm; omega
  refine (main a0 len0 cap0 ss a1 len1 cap1 z1 w hT hs.1 hs hlen (fun i hi => ?_)).mono fun e w' ⟨he, hk⟩ => ⟨he, hk.below (Nat.le_refl _) (by simp)⟩
  rcases w0 with ⟨_, h1, _, _⟩ | ⟨x, rfl, hl, hm, hz, hcell, _⟩
  · omega
  · obtain ⟨bb, off, rfl, hc⟩ := ints_at hcell (by omega)
    exact ⟨bb, off, rfl, hc i (by omega)⟩

set_option maxRecDepth 100000 in
theorem lifted (os : Os) (started : os.Started) (H : Type) (enc : TypeId × Value → H) :
    ReturnsInHanded {} Tryd.checked os 4 .any (fun w args => (Rows.dirApartSpec.pre enc Tryd.prog Tryd.f4 [] false w args ∧ laidMetH Tryd.prog laid2 w) ∧ sizedMet enc Tryd.prog Tryd.f4 (OpenSpec.ofChange Rows.dirApartSpec) false w args)
      (Rows.dirApartSpec.post enc Tryd.prog Tryd.f4 false true false false) := by
  refine returnsInHanded_of_change_and (C := Tryd.checked) (X := fun w _ => laidMetH Tryd.prog laid2 w) (fun _ _ _ hh h => h.of_heap hh) own started (by kernel_rfl) Tryd.func4
    (ChangeSpec.witness_shaped (enc := enc) (C := Tryd.checked) (os := os) (X := fun w _ => laidMetH Tryd.prog laid2 w) false (World.laidAll Tryd.prog os laid2) #[.slice none 0 0, .slice none 0 0] 8 (World.laidAll_os _ _ _) (World.shaped_of_ZipB (by kernel_rfl) (by kernel_rfl)) (by kernel_rfl) (by kernel_rfl) (by kernel_rfl) (met_laid os _)) ?_
  intro W base args ds gs before hval0 hW _ hsz0 hL _
  have hsz : (DataW.weightsEach Tryd.prog (Tryd.f4.params.toList ++ Rows.dirApartSpec.plain.varTypes Tryd.prog) (ds ++ gs)).all (· ≤ reachBytes) = true := hsz0
  have hval : ∀ (j : Nat) t v, Tryd.f4.params[j]? = some t → args[j]? = some v → Value.okWide Tryd.prog W .any base t v := hval0
  have hW' := hW
  obtain ⟨p, q, hA0, hV, rfl, hfz, hnd⟩ := hW
  have hA : DataW.TrodAll enc Tryd.prog W 0 (fun _ => true) true Tryd.f4.params.toList args.toList ds p := hA0
  rw [Tryd.params4] at hA hval hsz
  obtain ⟨v0, vs0, d0, ds0, p0, q0, hargs, rfl, rfl, h0, r0⟩ := trodAll_cons hA
  obtain ⟨v1, vs1, d1, ds1, p1, q1, rfl, rfl, rfl, h1, r1⟩ := trodAll_cons r0
  obtain ⟨rfl, rfl, rfl⟩ := trodAll_nil r1
  obtain rfl : args = #[v0, v1] := by cases args; simp_all
  obtain ⟨rfl, rfl⟩ := trodVars_none hV
  obtain ⟨a0, len0, cap0, rfl⟩ := okWide_slice Tryd.underlying47 (hval 0 47 v0 rfl rfl)
  have k0 := h0
  have lt0 : ∀ x ∈ p0, x.block < W.heap.size := by obtain ⟨m, hm⟩ := k0; exact DataW.trod_lt m _ _ _ hm
  have wt0 : ∀ n ∈ d0.weights Tryd.prog 47, n ≤ reachBytes := fun n hn => by
    have := List.all_eq_true.1 hsz n (DataW.weights_mem_each (j := 0) rfl rfl n hn)
    simpa using this
  obtain ⟨z0, w0⟩ : ∃ ss, IsStrs W a0 len0 ss := by
    obtain ⟨fuel, hf⟩ := h0
    exact strs_at hf wt0
  obtain ⟨a1, len1, cap1, rfl⟩ := okWide_slice Tryd.underlying48 (hval 1 48 v1 rfl rfl)
  have k1 := h1
  have lt1 : ∀ x ∈ p1, x.block < W.heap.size := by obtain ⟨m, hm⟩ := k1; exact DataW.trod_lt m _ _ _ hm
  obtain ⟨z1, w1⟩ : ∃ zs, IsRow .i64 W a1 len1 cap1 zs := by
    obtain ⟨fuel, hf⟩ := h1
    rcases open_ints Tryd.underlying48 Tryd.underlying3 (by kernel_rfl) hf with ⟨hcs, _⟩ | ⟨x, l, c, zs, hcs, _, hl, hm, hz, _, hcell, hwz⟩
    · simp [Value.cells] at hcs
      obtain ⟨rfl, rfl, rfl⟩ := hcs
      exact ⟨[], .inl ⟨rfl, rfl, rfl, rfl⟩⟩
    · simp [Value.cells] at hcs
      obtain ⟨rfl, rfl, rfl⟩ := hcs
      exact ⟨zs, .inr ⟨_, rfl, hl, hm, by simpa using hz, hcell, hwz⟩⟩
  clear hA0 hval0
  refine (walk a0 len0 cap0 z0 a1 len1 cap1 z1 W (of_laid hL) w0 w1).mono fun e W' ⟨he, bel⟩ => ?_
  subst he
  exact ⟨_, rfl, _, _, _, [], _, [], hW', trodAll_mk1 (shut_bool Tryd.underlying4 _), (trodAll_cons_mk (Below.trod laidOut (by kernel_rfl) (of_decide_eq_true (by kernel_rfl)) k0 bel lt0) (trodAll_cons_mk (Below.trod laidOut (by kernel_rfl) (of_decide_eq_true (by kernel_rfl)) k1 bel lt1) trodAll_mk0)), rfl, bel.frame _, fun h => by cases h⟩

theorem over : Rows.dirApartRow.holds Tryd.pinned (OpenSpec.ofChange Rows.dirApartSpec) :=
  OpenClaim.holds_of_wide 4 Tryd.f4 rfl rfl rfl rfl rfl rfl rfl ⟨rfl, rfl, rfl, rfl, rfl⟩ rfl rfl rfl rfl rfl (by kernel_rfl) Tryd.func4 (by kernel_rfl)
    (of_decide_eq_true (by kernel_rfl)) (by unfold Func.isWrapper; first | (rw [if_pos (by decide +kernel)]; kernel_rfl) | (rw [if_neg (by decide +kernel)]; exact ⟨rfl, rfl⟩))
    (fun os started H enc _ => lifted os started H enc)

theorem card : Rows.DirApartCardSaid :=
  Claim7.holds_tied_plain_at .later [] [.data, .pinned] true (true, "b52752b4ad1ea57d169ecc7371ec3f9f9e5e71061f90f46f4a0915212379700a") true
    over (fun _ h => by cases h) (by kernel_rfl) (fun _ h => by cases h) dirApart_row_tie rfl ⟨rfl, rfl⟩ (by kernel_rfl) rfl
    (fun f fn hf hfn => by
      obtain rfl : f = 4 := Option.some.inj ((show Tryd.prog.funcNamed "concourse/concourselaw9.DirApart" = some 4 by kernel_rfl).symm.trans hf) |>.symm
      obtain rfl : fn = Tryd.f4 := (Option.some.inj (Tryd.func4.symm.trans hfn)).symm
      exact ⟨by kernel_rfl, fun j t ht => by
        rw [Tryd.params4] at ht
        have hm : t ∈ [47, 48] := by simpa using Array.mem_of_getElem? ht
        have hall : ([47, 48].all fun u => !Tryd.prog.wantsStandIn u) = true := by kernel_rfl
        exact (show Tryd.prog.wantsStandIn t = false by simpa using List.all_eq_true.1 hall t hm)⟩)
    (by kernel_rfl)

end Go.Proofs.YtnbbcbjfejdceaaDoor.dirApart

namespace Go.Proofs.YtnbbcbjfejdceaaDoor
theorem dirApart_holds : Rows.DirApartCardSaid := dirApart.card
#print axioms dirApart_holds
end Go.Proofs.YtnbbcbjfejdceaaDoor
