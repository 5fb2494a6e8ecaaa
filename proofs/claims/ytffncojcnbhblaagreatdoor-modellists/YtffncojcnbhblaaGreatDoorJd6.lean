/-
  Joined of my texts Rc Rd Re.
-/
import Derived.Test.YtffncojcnbhblaaGreatDoorJd5
import Derived.Laws.Cover1
import Derived.Deep.RegionHeld3
import Derived.Deep.RegionLaw
set_option linter.unusedVariables false
set_option linter.unusedSimpArgs false
set_option maxRecDepth 100000
set_option maxHeartbeats 8000000
namespace Go.Proofs.YtffncojcnbhblaaGreatDoor
open Go.RowKit
theorem box4 (w : World) (a b c d : Value) (t : TypeId) : ∃ W X, Hid (w.alloc (.cells #[a, b, c, d] t (0, 0)) = W ∧ w.heap.size = X) ∧ Hid (Kept [] w W) ∧ W.cell? ⟨X, 0, none⟩ = some a ∧ W.cell? ⟨X, 1, none⟩ = some b ∧ W.cell? ⟨X, 2, none⟩ = some c ∧ W.cell? ⟨X, 3, none⟩ = some d :=
 ⟨_, _, ⟨rfl, rfl⟩, (Kept.refl [] w).alloc _, cell_new _ _ _ _, cell_new _ _ _ _, cell_new _ _ _ _, cell_new _ _ _ _⟩
theorem box3 (w : World) (a b c : Value) (t : TypeId) : ∃ W X, Hid (w.alloc (.cells #[a, b, c] t (0, 0)) = W ∧ w.heap.size = X) ∧ Hid (Kept [] w W) ∧ W.cell? ⟨X, 0, none⟩ = some a ∧ W.cell? ⟨X, 1, none⟩ = some b ∧ W.cell? ⟨X, 2, none⟩ = some c :=
 ⟨_, _, ⟨rfl, rfl⟩, (Kept.refl [] w).alloc _, cell_new _ _ _ _, cell_new _ _ _ _, cell_new _ _ _ _⟩
theorem box2 (w : World) (a b : Value) (t : TypeId) : ∃ W X, Hid (w.alloc (.cells #[a, b] t (0, 0)) = W ∧ w.heap.size = X) ∧ Hid (Kept [] w W) ∧ W.cell? ⟨X, 0, none⟩ = some a ∧ W.cell? ⟨X, 1, none⟩ = some b :=
 ⟨_, _, ⟨rfl, rfl⟩, (Kept.refl [] w).alloc _, cell_new _ _ _ _, cell_new _ _ _ _⟩
theorem box1 (w : World) (a : Value) (t : TypeId) : ∃ W X, Hid (w.alloc (.cells #[a] t (0, 0)) = W ∧ w.heap.size = X) ∧ Hid (Kept [] w W) ∧ W.cell? ⟨X, 0, none⟩ = some a :=
 ⟨_, _, ⟨rfl, rfl⟩, (Kept.refl [] w).alloc _, cell_new _ _ _ _⟩
theorem boxS {w : World} {p : Pl} {S : Sta} (h : Sv w p S) : ∃ W X, Hid (w.alloc (sbox p S) = W ∧ w.heap.size = X) ∧ Hid (Bx w W X p S) := ⟨_, _, ⟨rfl, rfl⟩, h.boxed⟩
theorem p_links {w : World} {p : Pl} {S : Sta} (h : Sv w p S) (num : Int) (hs : S.ino.length ≤ 60000) :
  Calls Tryz.prog 18 #[sval p S, .int .i64 num] w fun e w' => e = .returned (.int .i64 ((linksR S.ino num : Nat) : Int)) ∧ Kept [] w w' := by
 have HN : Hid (_) := h.n4
 obtain ⟨W0, X, HW, HB⟩ := boxS h
 have hn1 := h.n1
 unfold lim at hn1
 have x0 := HB.out.x0
 clear h
 go_enter Tryz.func18, Tryz.ntmps18
 go_upto_region 2 with fail
 rw [HW.out.1, HW.out.2]
 clear HW
 go_wp2_with fail
 clear x0
 go_loopw [5, 13] (fun u i wr => ∃ n : Nat, i = .int .i64 (n : Int) ∧ u = .int .i64 ((linksR (S.ino.take n) num : Nat) : Int) ∧ n ≤ S.ino.length ∧ Hid (Kept [] W0 wr)) (fun _ i _ => (S.ino.length - intOf i).toNat)
 case atStart => exact ⟨0, rfl, rfl, by omega, Kept.refl _ _⟩
 case round =>
  obtain ⟨n, rfl, rfl, hn, HKr⟩ := hrel
  by_cases hlt : n < S.ino.length
  ·
   have i0 : (0 : Int) ≤ (n : Int) := by omega
   have i1 : (n : Int) < (S.ino.length : Int) := by omega
   obtain ⟨b, o, ae, ce, ha, h0, h1, h2, h3, h4, h5⟩ := (HB.out.kept HKr.out).sv.ino n hlt
   have HA : Hid (p.a1 = some ⟨b, o, none⟩) := ha
   have HEn : Hid (EntA wr ae (S.ino[n]).ents) := h4
   have hlim : (S.ino[n]).ents.length ≤ 140737488355328 := HN.out _ (List.getElem_mem hlt)
   have hle : linksR (S.ino.take n) num ≤ 8444249301319680000 := links_big (by rw [List.length_take]; omega) fun x hx => HN.out x (List.mem_of_mem_take hx)
   have HL : Hid (_) := links_take (num := num) hlt
   clear h4 h5 ha
   rw [HA.out]
   obtain ⟨q, hq⟩ : ∃ q, linksR (S.ino.take n) num = q := ⟨_, rfl⟩
   rw [hq] at hle HL ⊢
   clear hq
   obtain ⟨E, hE⟩ : ∃ E, (S.ino[n]).ents = E := ⟨_, rfl⟩
   rw [hE] at h2 hlim HL HEn
   clear hE
   generalize (S.ino[n]).num = nn at h0
   generalize (S.ino[n]).data = da at h3
   obtain ⟨d, hd⟩ : ∃ d, (S.ino[n]).dir = d := ⟨_, rfl⟩
   rw [hd] at h1 HL
   clear hd
   obtain ⟨W1, Y, HW1, HK1, c0, c1, c2, c3⟩ := box4 wr (.int .i64 nn) (.bool d) (.slice ae E.length ce) (.string da) 62
   go_upto_region 5 with fail
   rw [HW1.out.1, HW1.out.2]
   clear HW1 h0 h1 h2 h3
   have HK2 : Hid (Kept [] W0 W1) := HKr.out.trans HK1.out (by simp)
   cases d
   ·
    have HL2 : Hid (linksR (S.ino.take (n + 1)) num = q) := by show _ = _; have := HL.out; simpa using this
    clear HL HKr
    go_wp2_with fail
    go_roundw
    case rel => exact ⟨n + 1, by go_num, by rw [HL2.out], by omega, HK2.out⟩
    case measure => simp [intOf]; omega
   ·
    have HL2 : Hid (linksR (S.ino.take (n + 1)) num = q + cnt E num) := by show _ = _; have := HL.out; simpa using this
    have HEn1 : Hid (EntA W1 ae E) := HEn.out.kept HK1.out
    clear HL HKr HEn HK1
    go_wp2_with fail
    clear c0 c1 c2 c3
    go_loopw [23, 5] (fun i u wr2 => ∃ k : Nat, i = .int .i64 (k : Int) ∧ u = .int .i64 ((q + cnt (E.take k) num : Nat) : Int) ∧ k ≤ E.length ∧ Hid (Kept [] W1 wr2)) (fun i _ _ => (E.length - intOf i).toNat)
    case atStart => exact ⟨0, rfl, rfl, by omega, Kept.refl _ _⟩
    case round =>
     obtain ⟨k, rfl, rfl, hk, HKe⟩ := hrel
     by_cases hlk : k < E.length
     ·
      have j0 : (0 : Int) ≤ (k : Int) := by omega
      have j1 : (k : Int) < (E.length : Int) := by omega
      obtain ⟨b', o', hb', g1, g2⟩ := (HEn1.out.kept HKe.out) k hlk
      subst hb'
      have hcl := cnt_le (E.take k) num
      rw [List.length_take] at hcl
      have HC : Hid (_) := cnt_take (num := num) hlk
      obtain ⟨z, hz⟩ : ∃ z, (E[k]).2 = z := ⟨_, rfl⟩
      rw [hz] at g2 HC
      generalize (E[k]).1 = t at g1
      clear hz
      obtain ⟨c0, hc0⟩ : ∃ c0, cnt (E.take k) num = c0 := ⟨_, rfl⟩
      rw [hc0] at hcl HC ⊢
      clear hc0
      obtain ⟨W2, Z, HW2, HK3, e0, e1⟩ := box2 ‹_› (.string t) (.int .i64 z) 64
      go_upto_region 9 with fail
      rw [HW2.out.1, HW2.out.2]
      clear HW2 g1 g2
      have HK4 : Hid (Kept [] W1 W2) := HKe.out.trans HK3.out (by simp)
      by_cases he : z = num
      ·
       have HC2 : Hid (cnt (E.take (k + 1)) num = c0 + 1) := by have := HC.out; rw [if_pos he] at this; exact this
       subst he
       clear HC HKe HK3
       go_wp2_with fail
       go_roundw
       case rel => exact ⟨k + 1, by go_num, by rw [HC2.out]; go_num, by omega, HK4.out⟩
       case measure => simp [intOf]; omega
      ·
       have HC2 : Hid (cnt (E.take (k + 1)) num = c0) := by have := HC.out; rw [if_neg he] at this; exact this
       have he2 : (z == num) = false := by simpa using he
       clear HC HKe HK3
       go_wp2_with fail
       go_roundw
       case rel => exact ⟨k + 1, by go_num, by rw [HC2.out], by omega, HK4.out⟩
       case measure => simp [intOf]; omega
     ·
      have j1 : ¬ (k : Int) < (E.length : Int) := by omega
      have HC2 : Hid (cnt (E.take k) num = cnt E num) := by show _ = _; rw [List.take_of_length_le (by omega)]
      have HK4 : Hid (Kept [] W0 _) := HK2.out.trans HKe.out (by simp)
      generalize cnt (E.take k) num = c0 at *
      clear HKe
      go_wp2_with fail
      go_roundw
      case rel => exact ⟨n + 1, by go_num, by rw [HL2.out, HC2.out], by omega, HK4.out⟩
      case measure => simp [intOf]; omega
  ·
   have i1 : ¬ (n : Int) < (S.ino.length : Int) := by omega
   have HL : Hid (linksR (S.ino.take n) num = linksR S.ino num) := by show _ = _; rw [List.take_of_length_le (by omega)]
   generalize linksR (S.ino.take n) num = q at *
   have HK : Hid (Kept [] w _) := HB.out.k.trans HKr.out (by simp)
   go_wp2_with fail
   go_ret
   exact ⟨ret_int (by rw [HL.out]), HK.out⟩
def walkR (L : List Ino) : Int → List ByteArray → Int × Int
 | num, [] => (num, 0)
 | num, t :: ts => match atR L num with
  | none => (0, 1)
  | some k => if (L[k]?.map Ino.dir).getD false then (match plR ((L[k]?.map Ino.ents).getD []) t with
    | none => (0, 1)
    | some i => walkR L ((((L[k]?.map Ino.ents).getD [])[i]?.map Prod.snd).getD 0) ts)
   else (0, 7)
theorem drop_tx {xs : List ByteArray} {n : Nat} (h : n < xs.length) : xs.drop n = tx xs n :: xs.drop (n + 1) := by
 rw [List.drop_eq_getElem_cons h]
 congr 1
 have := tx_at h
 rw [List.getElem?_eq_getElem h] at this
 exact Option.some.inj this
theorem walk_gone {L : List Ino} {num : Int} {t : ByteArray} {ts : List ByteArray} (h : atR L num = none) : walkR L num (t :: ts) = (0, 1) := by
 rw [walkR, h]
theorem walk_file {L : List Ino} {num : Int} {t : ByteArray} {ts : List ByteArray} {k : Nat} (h : atR L num = some k) (hk : k < L.length) (hd : (L[k]).dir = false) : walkR L num (t :: ts) = (0, 7) := by
 rw [walkR, h]
 simp [hk, hd]
theorem walk_miss {L : List Ino} {num : Int} {t : ByteArray} {ts : List ByteArray} {k : Nat} (h : atR L num = some k) (hk : k < L.length) (hd : (L[k]).dir = true) (hp : plR (L[k]).ents t = none) : walkR L num (t :: ts) = (0, 1) := by
 rw [walkR, h]
 simp [hk, hd, hp]
theorem walk_on {L : List Ino} {num : Int} {t : ByteArray} {ts : List ByteArray} {k i : Nat} (h : atR L num = some k) (hk : k < L.length) (hd : (L[k]).dir = true) (hp : plR (L[k]).ents t = some i) (hi : i < (L[k]).ents.length) : walkR L num (t :: ts) = walkR L ((L[k]).ents[i]).2 ts := by
 rw [walkR, h]
 simp [hk, hd, hp, hi]
def findR (L : List Ino) (s : ByteArray) : Int × Int := if codeR (parseR s).2 = 0 then walkR L 1 (parseR s).1 else (0, codeR (parseR s).2)
def Named (s : ByteArray) (w : World) (e : Ending) (w' : World) : Prop :=
 ∃ v, e = .returned (.tuple #[v, .int .i64 (codeR (parseR s).2)]) ∧ Sr w' w.heap.size v (parseR s).1 ∧ Kept [] w w'
theorem p_names (s : ByteArray) (w : World) (hT : Tab w) : Calls Tryz.prog 29 #[.string s] w (Named s w) := by
 have HT : Hid (_) := hT
 clear hT
 go_enter Tryz.func29, Tryz.ntmps29
 go_wp2_with fail
 refine (p_parse s w HT.out).mono ?_
 rintro e w1 ⟨v, rfl, hS, hk⟩
 have HS : Hid (Sr w1 w.heap.size v (parseR s).1 ∧ Kept [] w w1) := ⟨hS, hk⟩
 have HC : Hid (_) := parse_code s
 obtain ⟨x, hx⟩ : ∃ x, (parseR s).2 = x := ⟨_, rfl⟩
 have HX : Hid (_) := hx
 obtain ⟨a, c, hv, -⟩ := hS.read
 rw [hx] at HC ⊢
 subst hv
 clear hS hk hx
 go_wp2_with fail
 refine (p_code x HC.out w1).mono ?_
 rintro e w2 ⟨rfl, hw⟩
 subst hw
 go_wp2_with fail
 go_ret2
 exact ⟨_, by rw [HX.out]; rfl, HS.out.1, HS.out.2⟩
theorem p_walk {w : World} {p : Pl} {S : Sta} (h : Sv w p S) {a : Option Addr} {xs : List ByteArray} (hx : Ss w a xs) (c : Nat) :
  Calls Tryz.prog 30 #[sval p S, .slice a xs.length c] w fun e w' => e = .returned (.tuple #[.int .i64 (walkR S.ino 1 xs).1, .int .i64 (walkR S.ino 1 xs).2]) ∧ Kept [] w w' := by
 have HN : Hid (_) := h.n4
 have HS : Hid (Ss w a xs) := hx
 obtain ⟨W0, X, HW, HB⟩ := boxS h
 have hn1 := h.n1
 unfold lim at hn1
 have hn2 : xs.length ≤ 9223372036854775807 := hx.1
 clear h hx
 go_enter Tryz.func30, Tryz.ntmps30
 go_upto_region 2 with fail
 rw [HW.out.1, HW.out.2]
 clear HW
 go_wp2_with fail
 go_loopw [6, 13] (fun u i wr => ∃ (n : Nat) (cur : Int), i = .int .i64 (n : Int) ∧ u = .int .i64 cur ∧ n ≤ xs.length ∧ Hid (Kept [] W0 wr ∧ walkR S.ino 1 xs = walkR S.ino cur (xs.drop n))) (fun _ i _ => (xs.length - intOf i).toNat)
 case atStart => exact ⟨0, 1, rfl, rfl, by omega, Kept.refl _ _, rfl⟩
 case round =>
  obtain ⟨n, cur, rfl, rfl, hn, HJ⟩ := hrel
  by_cases hlt : n < xs.length
  ·
   have i0 : (0 : Int) ≤ (n : Int) := by omega
   have i1 : (n : Int) < (xs.length : Int) := by omega
   have HB1 : Hid (_) := HB.out.kept HJ.out.1
   obtain ⟨b0, o0, ha0, hc0⟩ := (HS.out.kept (HB.out.k.trans HJ.out.1 (by simp))).2 n hlt
   have HD : Hid (walkR S.ino 1 xs = walkR S.ino cur (tx xs n :: xs.drop (n + 1))) := HJ.out.2.trans (by rw [drop_tx hlt])
   obtain ⟨t, ht⟩ : ∃ t, tx xs n = t := ⟨_, rfl⟩
   rw [ht] at HD hc0
   subst ha0
   have x0 := HB1.out.x0
   have x1 := HB1.out.x1
   have x2 := HB1.out.x2
   clear ht
   rcases hat : atR S.ino cur with _ | k
   ·
    have HE : Hid (walkR S.ino 1 xs = (0, 1)) := HD.out.trans (walk_gone hat)
    have HAt : Hid (_) := hat
    clear hat HD
    go_wp2_with fail
    refine (p_inode_none HB1.out.sv cur HAt.out).mono ?_
    rintro e w1 ⟨rfl, k1⟩
    have HK : Hid (Kept [] w w1) := (HB1.out.k.trans k1 (by simp))
    clear k1 x0 x1 x2 hc0
    go_wp2_with fail
    go_ret2
    exact ⟨by rw [HE.out]; rfl, HK.out⟩
   ·
    obtain ⟨hk, -⟩ := at_get hat
    obtain ⟨b, o, ae, ce, ha, h0, h1, h2, h3, h4, h5⟩ := HB1.out.sv.ino k hk
    have HAt : Hid (atR S.ino cur = some k ∧ p.a1 = some ⟨b, o, none⟩) := ⟨hat, ha⟩
    have hlim : (S.ino[k]).ents.length ≤ lim := HN.out _ (List.getElem_mem hk)
    have HEn : Hid (EntA _ ae (S.ino[k]).ents ∧ (S.ino[k]).ents.length ≤ lim) := ⟨h4, hlim⟩
    unfold lim at hlim
    clear h0 h3 h4 h5 ha hat
    go_wp2_with fail
    refine (p_inode_some HB1.out.sv cur HAt.out.1 HAt.out.2).mono ?_
    rintro e w1 ⟨rfl, k1⟩
    have HK : Hid (Kept [] W0 w1) := (HJ.out.1.trans k1 (by simp))
    have HK0 : Hid (Kept [] w w1) := (HB1.out.k.trans k1 (by simp))
    have g1 := k1.cell h1 (by simp)
    have g2 := k1.cell h2 (by simp)
    have HEn1 : Hid (EntA w1 ae (S.ino[k]).ents ∧ (S.ino[k]).ents.length ≤ lim) := ⟨HEn.out.1.kept k1, HEn.out.2⟩
    clear k1 x0 x1 x2 hc0 h1 h2 HJ HEn HB1
    obtain ⟨d, hd⟩ : ∃ d, (S.ino[k]).dir = d := ⟨_, rfl⟩
    have HDir : Hid (_) := hd
    rw [hd] at g1
    clear hd
    cases d
    ·
     have HE : Hid (walkR S.ino 1 xs = (0, 7)) := HD.out.trans (walk_file HAt.out.1 hk HDir.out)
     clear HD
     go_wp2_with fail
     go_ret2
     exact ⟨by rw [HE.out]; rfl, HK0.out⟩
    ·
     obtain ⟨E, hE⟩ : ∃ E, (S.ino[k]).ents = E := ⟨_, rfl⟩
     have HEq : Hid (_) := hE
     rw [hE] at g2 HEn1 hlim
     clear hE
     go_wp2_with fail
     refine (p_place HEn1.out.1 HEn1.out.2 _ t).mono ?_
     rintro e w2 ⟨rfl, k2⟩
     have HK2 : Hid (Kept [] W0 w2) := (HK.out.trans k2 (by simp))
     have HK02 : Hid (Kept [] w w2) := (HK0.out.trans k2 (by simp))
     have f2 := k2.cell g2 (by simp)
     have HEn2 : Hid (EntA w2 ae E) := HEn1.out.1.kept k2
     clear k2 g1 g2 HK HK0 HEn1
     rcases hp : plR E t with _ | i
     ·
      have HE : Hid (walkR S.ino 1 xs = (0, 1)) := HD.out.trans (walk_miss HAt.out.1 hk HDir.out (by rw [HEq.out]; exact hp))
      clear hp HD
      unfold ixI
      go_wp2_with fail
      go_ret2
      exact ⟨by rw [HE.out]; rfl, HK02.out⟩
     ·
      obtain ⟨hi, -⟩ := idx_get hp
      obtain ⟨b', o', hb', e1, e2⟩ := HEn2.out i hi
      have HE : Hid (walkR S.ino 1 xs = walkR S.ino (E[i]).2 (xs.drop (n + 1))) := HD.out.trans (by
       have := walk_on (ts := xs.drop (n + 1)) HAt.out.1 hk HDir.out (by rw [HEq.out]; exact hp) (by rw [HEq.out]; exact hi)
       rw [this]
       congr 2
       simp only [HEq.out])
      subst hb'
      have j0 : (0 : Int) ≤ (i : Int) := by omega
      have j1 : (i : Int) < (E.length : Int) := by omega
      have j2 : ¬ (i : Int) < 0 := by omega
      clear hp HD e1
      unfold ixI
      go_wp2_with fail
      go_roundw
      case rel => exact ⟨n + 1, _, by go_num, rfl, by omega, HK2.out, HE.out⟩
      case measure => simp [intOf]; omega
  ·
   have i1 : ¬ (n : Int) < (xs.length : Int) := by omega
   have HE : Hid (walkR S.ino 1 xs = (cur, 0)) := HJ.out.2.trans (by rw [List.drop_of_length_le (by omega)]; rfl)
   have HK : Hid (Kept [] w _) := HB.out.k.trans HJ.out.1 (by simp)
   clear HJ
   go_wp2_with fail
   go_ret2
   exact ⟨by rw [HE.out]; rfl, HK.out⟩
theorem p_find {w : World} {p : Pl} {S : Sta} (h : Sv w p S) (hT : Tab w) (s : ByteArray) :
  Calls Tryz.prog 16 #[sval p S, .string s] w fun e w' => e = .returned (.tuple #[.int .i64 (findR S.ino s).1, .int .i64 (findR S.ino s).2]) ∧ Kept [] w w' := by
 obtain ⟨W0, X, HW, HB⟩ := boxS h
 have HT : Hid (Tab W0) := hT.kept HB.out.k
 clear h hT
 go_enter Tryz.func16, Tryz.ntmps16
 go_upto_region 1 with fail
 rw [HW.out.1, HW.out.2]
 clear HW
 go_wp2_with fail
 refine (p_names s W0 HT.out).mono ?_
 rintro e w1 ⟨v, rfl, hS, hk⟩
 have HB1 : Hid (_) := HB.out.kept hk
 obtain ⟨a, c, hv, hs, -⟩ := hS.read
 have HS : Hid (Ss w1 a (parseR s).1) := hs
 subst hv
 obtain ⟨x, hx⟩ : ∃ x, codeR (parseR s).2 = x := ⟨_, rfl⟩
 have HX : Hid (_) := hx
 rw [hx]
 have x0 := HB1.out.x0
 have x1 := HB1.out.x1
 have x2 := HB1.out.x2
 clear hx hk hS hs
 by_cases he : x = 0
 ·
  have HE : Hid (findR S.ino s = walkR S.ino 1 (parseR s).1) := by show _ = _; unfold findR; rw [if_pos (HX.out.trans he)]
  subst he
  go_wp2_with fail
  refine (p_walk HB1.out.sv HS.out c).mono ?_
  rintro e w2 ⟨rfl, k2⟩
  have HK : Hid (Kept [] w w2) := HB1.out.k.trans k2 (by simp)
  clear k2 x0 x1 x2
  go_wp2_with fail
  go_ret2
  exact ⟨by rw [HE.out]; rfl, HK.out⟩
 ·
  have HE : Hid (findR S.ino s = (0, x)) := by show _ = _; unfold findR; rw [if_neg (by rw [HX.out]; exact he), HX.out]
  go_wp2_with fail
  go_ret2
  exact ⟨by rw [HE.out]; rfl, HB1.out.k⟩
def cmpI (x y : Int) : Int := if x < y then -1 else if y < x then 1 else 0
def cmpS (x y : ByteArray) : Int := if below x y then -1 else if below y x then 1 else 0
theorem less_lx : ∀ (x y : List UInt8), Op.bytesLess x y = lx x y
 | [], [] => rfl
 | [], _ :: _ => rfl
 | _ :: _, [] => rfl
 | a :: x, b :: y => by
  rw [Op.bytesLess, lx, less_lx x y]
  congr 1
  congr 1
  ·
   by_cases e : a = b
   · subst e; simp
   ·
    have : ¬ a.toNat = b.toNat := fun h => e (UInt8.toNat_inj.1 h)
    simp [e, this]
theorem nan_int (x : Int) (w : World) : Calls Tryz.prog 119 #[.int .i64 x] w fun e w' => e = .returned (.bool false) ∧ w' = w := by
 go_enter Tryz.func119, Tryz.ntmps119
 go_wp2_with fail
 go_ret
 exact ⟨ret_bool (by simp), rfl⟩
theorem nan_str (x : ByteArray) (w : World) : Calls Tryz.prog 147 #[.string x] w fun e w' => e = .returned (.bool false) ∧ w' = w := by
 go_enter Tryz.func147, Tryz.ntmps147
 go_wp2_with fail
 go_ret
 exact ⟨ret_bool (by simp), rfl⟩
theorem c_int (x y : Int) (w : World) : Calls Tryz.prog 76 #[.int .i64 x, .int .i64 y] w fun e w' => e = .returned (.int .i64 (cmpI x y)) ∧ w' = w := by
 go_enter Tryz.func76, Tryz.ntmps76
 go_wp2_with fail
 refine (nan_int x w).mono ?_
 rintro e w1 ⟨rfl, hw⟩
 subst hw
 go_wp2_with fail
 refine (nan_int y w1).mono ?_
 rintro e w2 ⟨rfl, hw⟩
 subst hw
 by_cases h1 : x < y
 ·
  have HC : Hid (-1 = cmpI x y) := by show _ = _; unfold cmpI; rw [if_pos h1]
  go_wp2_with fail
  go_ret
  exact ⟨ret_int HC.out, rfl⟩
 ·
  by_cases h2 : y < x
  ·
   have HC : Hid (1 = cmpI x y) := by show _ = _; unfold cmpI; rw [if_neg h1, if_pos h2]
   go_wp2_with fail
   go_ret
   exact ⟨ret_int HC.out, rfl⟩
  ·
   have HC : Hid (0 = cmpI x y) := by show _ = _; unfold cmpI; rw [if_neg h1, if_neg h2]
   go_wp2_with fail
   go_ret
   exact ⟨ret_int HC.out, rfl⟩
theorem c_str (x y : ByteArray) (w : World) : Calls Tryz.prog 121 #[.string x, .string y] w fun e w' => e = .returned (.int .i64 (cmpS x y)) ∧ w' = w := by
 have hl : Op.bytesLess x.toList y.toList = below x y := less_lx _ _
 have HT : Hid (_) := below_tri x y
 have HA : Hid (x.toList = y.toList → x = y) := toList_inj
 have HI : Hid (below y y = false) := below_irrefl y
 have HTr : Hid (below x y = true → below y x = true → False) := fun h1 h2 => by have := below_trans h1 h2; rw [below_irrefl] at this; cases this
 go_enter Tryz.func121, Tryz.ntmps121
 go_wp2_with fail
 refine (nan_str x w).mono ?_
 rintro e w1 ⟨rfl, hw⟩
 subst hw
 go_wp2_with fail
 refine (nan_str y w1).mono ?_
 rintro e w2 ⟨rfl, hw⟩
 subst hw
 rcases h1 : below x y with _ | _
 ·
  rw [h1] at hl
  by_cases h2 : x.toList = y.toList
  ·
   have HC : Hid (0 = cmpS x y) := by show _ = _; unfold cmpS; rw [h1, HA.out h2, HI.out]; rfl
   have h3 := HA.out h2
   clear h1 h2 HT HTr HA
   subst h3
   go_wp2_with fail
   go_ret
   exact ⟨ret_int HC.out, rfl⟩
  ·
   have HC : Hid (1 = cmpS x y) := by
    show _ = _
    unfold cmpS
    have h3 : below y x = true := by
     rcases HT.out with e | e | e
     · exact absurd (by rw [e]) h2
     · rw [h1] at e; cases e
     · exact e
    rw [h1, h3]; rfl
   have h4 : (x.toList == y.toList) = false := by simpa using h2
   clear h1
   go_wp2_with fail
   go_ret
   exact ⟨ret_int HC.out, rfl⟩
 ·
  rw [h1] at hl
  have HC : Hid (-1 = cmpS x y) := by show _ = _; unfold cmpS; rw [h1]; rfl
  clear h1
  go_wp2_with fail
  go_ret
  exact ⟨ret_int HC.out, rfl⟩
theorem by_num {w : World} (z z' : Int) (d d' : Bool) (v v' : Value) (s s' : ByteArray) (hv : ∃ a n c, v = .slice a n c) (hv' : ∃ a n c, v' = .slice a n c) :
  Calls Tryz.prog 51 #[.agg #[.int .i64 z, .bool d, v, .string s], .agg #[.int .i64 z', .bool d', v', .string s']] w fun e w' => e = .returned (.int .i64 (cmpI z z')) ∧ Kept [] w w' := by
 obtain ⟨a, n, c, rfl⟩ := hv
 obtain ⟨a', n', c', rfl⟩ := hv'
 obtain ⟨W1, X1, HW1, HK1, c0, -, -, -⟩ := box4 w (.int .i64 z) (.bool d) (.slice a n c) (.string s) 62
 obtain ⟨W2, X2, HW2, HK2, d0, -, -, -⟩ := box4 W1 (.int .i64 z') (.bool d') (.slice a' n' c') (.string s') 62
 have c1 := HK2.out.cell c0 (by simp)
 have HK : Hid (Kept [] w W2) := HK1.out.trans HK2.out (by simp)
 have HZ : Hid (X2 = X1 + 1) := by show _ = _; rw [← HW2.out.2, ← HW1.out.1]; simp [HW1.out.2]
 clear c0
 go_enter Tryz.func51, Tryz.ntmps51
 go_upto_region 1 with fail
 rw [HW1.out.1, HW2.out.1, HW1.out.2]
 rw [HZ.out] at d0
 clear HW1 HW2
 go_wp2_with fail
 refine (c_int z z' W2).mono ?_
 rintro e w2 ⟨rfl, hw⟩
 subst hw
 go_wp2_with fail
 go_ret
 exact ⟨rfl, HK.out⟩
theorem by_name {w : World} (z z' : Int) (s s' : ByteArray) :
  Calls Tryz.prog 80 #[.agg #[.string s, .int .i64 z], .agg #[.string s', .int .i64 z']] w fun e w' => e = .returned (.int .i64 (cmpS s s')) ∧ Kept [] w w' := by
 obtain ⟨W1, X1, HW1, HK1, c0, -⟩ := box2 w (.string s) (.int .i64 z) 64
 obtain ⟨W2, X2, HW2, HK2, d0, -⟩ := box2 W1 (.string s') (.int .i64 z') 64
 have c1 := HK2.out.cell c0 (by simp)
 have HK : Hid (Kept [] w W2) := HK1.out.trans HK2.out (by simp)
 have HZ : Hid (X2 = X1 + 1) := by show _ = _; rw [← HW2.out.2, ← HW1.out.1]; simp [HW1.out.2]
 clear c0
 go_enter Tryz.func80, Tryz.ntmps80
 go_upto_region 1 with fail
 rw [HW1.out.1, HW2.out.1, HW1.out.2]
 rw [HZ.out] at d0
 clear HW1 HW2
 go_wp2_with fail
 refine (c_str s s' W2).mono ?_
 rintro e w2 ⟨rfl, hw⟩
 subst hw
 go_wp2_with fail
 go_ret
 exact ⟨rfl, HK.out⟩
def orI (x y : Int) : Int := if x = 0 then y else x
theorem c_or (x y : Int) (w : World) (X : Nat) (h0 : w.cell? ⟨X, 0, none⟩ = some (.int .i64 x)) (h1 : w.cell? ⟨X, 1, none⟩ = some (.int .i64 y)) :
  Calls Tryz.prog 81 #[.slice (some ⟨X, 0, none⟩) 2 2] w fun e w' => e = .returned (.int .i64 (orI x y)) ∧ w' = w := by
 go_enter Tryz.func81, Tryz.ntmps81
 go_wp2_with fail
 go_loopw [8] (fun i wr => ∃ n : Nat, i = .int .i64 (n : Int) ∧ n ≤ 2 ∧ wr = w ∧ Hid ((1 ≤ n → x = 0) ∧ (2 ≤ n → y = 0))) (fun i _ => (2 - intOf i).toNat)
 case atStart => exact ⟨0, rfl, by omega, rfl, fun h => by omega, fun h => by omega⟩
 case round =>
  obtain ⟨n, rfl, hn, hw, HJ⟩ := hrel
  have hw2 := hw.symm
  subst hw2
  clear hw
  rcases (show n = 0 ∨ n = 1 ∨ n = 2 by omega) with rfl | rfl | rfl
  ·
   by_cases hx : x = 0
   ·
    have HX : Hid (_) := hx
    have hb : (x != 0) = false := by simpa using hx
    go_wp2_with fail
    go_roundw
    case rel => exact ⟨1, rfl, by omega, trivial, fun _ => HX.out, fun h => by omega⟩
    case measure => simp [intOf]
   ·
    have HX : Hid (orI x y = x) := if_neg hx
    have hb : (x != 0) = true := by simpa using hx
    go_wp2_with fail
    go_ret
    exact ⟨ret_int HX.out.symm, rfl⟩
  ·
   have hx := HJ.out.1 (by omega)
   have HX : Hid (orI x y = y ∧ x = 0) := ⟨if_pos hx, hx⟩
   clear hx
   by_cases hy : y = 0
   ·
    have HY : Hid (_) := hy
    have hb : (y != 0) = false := by simpa using hy
    go_wp2_with fail
    go_roundw
    case rel => exact ⟨2, rfl, by omega, trivial, fun _ => HX.out.2, fun _ => HY.out⟩
    case measure => simp [intOf]
   ·
    have hb : (y != 0) = true := by simpa using hy
    go_wp2_with fail
    go_ret
    exact ⟨ret_int HX.out.1.symm, rfl⟩
  ·
   have HX : Hid (orI x y = 0) := by show _ = _; unfold orI; rw [if_pos (HJ.out.1 (by omega)), HJ.out.2 (by omega)]
   go_wp2_with fail
   go_ret
   exact ⟨ret_int HX.out.symm, rfl⟩
def cmpD (x y : Ds) : Int := orI (cmpI x.1 y.1) (cmpI x.2.1 y.2.1)
theorem by_desc {w : World} (x y : Ds) :
  Calls Tryz.prog 56 #[.agg #[.int .i64 x.1, .int .i64 x.2.1, .int .i64 x.2.2], .agg #[.int .i64 y.1, .int .i64 y.2.1, .int .i64 y.2.2]] w fun e w' => e = .returned (.int .i64 (cmpD x y)) ∧ Kept [] w w' := by
 obtain ⟨a, b, c⟩ := x
 obtain ⟨a', b', c'⟩ := y
 have HD : Hid (cmpD (a, b, c) (a', b', c') = orI (cmpI a a') (cmpI b b')) := rfl
 obtain ⟨W1, X1, HW1, HK1, c0, c1, -⟩ := box3 w (.int .i64 a) (.int .i64 b) (.int .i64 c) 83
 obtain ⟨W2, X2, HW2, HK2, d0, d1, -⟩ := box3 W1 (.int .i64 a') (.int .i64 b') (.int .i64 c') 83
 have e0 := HK2.out.cell c0 (by simp)
 have e1 := HK2.out.cell c1 (by simp)
 have HK : Hid (Kept [] w W2) := HK1.out.trans HK2.out (by simp)
 have HZ : Hid (X2 = X1 + 1) := by show _ = _; rw [← HW2.out.2, ← HW1.out.1]; simp [HW1.out.2]
 clear c0 c1
 go_enter Tryz.func56, Tryz.ntmps56
 go_upto_region 1 with fail
 rw [HW1.out.1, HW2.out.1, HW1.out.2]
 rw [HZ.out] at d0 d1
 clear HW1 HW2
 have HC : Hid (W2.cell? ⟨X1, 0, none⟩ = some (.int .i64 a) ∧ W2.cell? ⟨X1, 1, none⟩ = some (.int .i64 b) ∧ W2.cell? ⟨X1 + 1, 0, none⟩ = some (.int .i64 a') ∧ W2.cell? ⟨X1 + 1, 1, none⟩ = some (.int .i64 b')) := ⟨e0, e1, d0, d1⟩
 clear e0 e1 d0 d1
 go_region_held3 (fun w' => w'.cell? ⟨X1, 0, none⟩ = some (.int .i64 a) ∧ w'.cell? ⟨X1, 1, none⟩ = some (.int .i64 b) ∧ w'.cell? ⟨X1 + 1, 0, none⟩ = some (.int .i64 a') ∧ w'.cell? ⟨X1 + 1, 1, none⟩ = some (.int .i64 b')) (first | exact HC.out | exact ⟨(((Kept.refl [] W2).alloc _).drew).cell HC.out.1 (by simp), (((Kept.refl [] W2).alloc _).drew).cell HC.out.2.1 (by simp), (((Kept.refl [] W2).alloc _).drew).cell HC.out.2.2.1 (by simp), (((Kept.refl [] W2).alloc _).drew).cell HC.out.2.2.2 (by simp)⟩ | go_keep)
  (first
   | (go_at_call 76; refine (c_int _ _ _).mono ?_; rintro e w2 ⟨rfl, hw⟩; subst hw)
   | (go_at_call 81; refine (c_or _ _ _ _ (cell_new _ _ _ _) (cell_new _ _ _ _)).mono ?_; rintro e w2 ⟨rfl, hw⟩; subst hw))
 go_wp2_with fail
 go_ret
 exact ⟨ret_int HD.out.symm, (HK.out.alloc _).drew⟩
end Go.Proofs.YtffncojcnbhblaaGreatDoor
