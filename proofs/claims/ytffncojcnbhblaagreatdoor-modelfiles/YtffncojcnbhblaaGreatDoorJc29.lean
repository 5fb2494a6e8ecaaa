/-
  Joined of my texts Qa Qb.
-/
import Derived.Test.YtffncojcnbhblaaGreatDoorJc11
import Derived.Test.YtffncojcnbhblaaGreatDoorJc10
import Derived.BigQuiet
import Derived.Deep.CutRange
import Derived.Deep.CutBlock
import Derived.Test.YtffncojcnbhblaaGreatDoorJc8
set_option linter.unusedVariables false
set_option linter.unusedSimpArgs false
set_option maxRecDepth 100000
set_option maxHeartbeats 8000000
namespace Go.Proofs.YtffncojcnbhblaaGreatDoor
open Go.RowKit
theorem r_at {w : World} {p : Pl} {S : Sta} (h : Sv w p S) (num : Int) :
  Calls Tryz.prog 94 #[sval p S, .int .i64 num] w fun e w' => e = .returned (.int .i64 (ixI (atR S.ino num))) ∧ Kept [] w w' := by
 have hb := h.boxed
 obtain ⟨W0, hW0⟩ : ∃ W0, W0 = w.alloc (sbox p S) := ⟨_, rfl⟩
 obtain ⟨X, hX⟩ : ∃ X, w.heap.size = X := ⟨_, rfl⟩
 rw [← hW0, hX] at hb
 have HW : Hid (w.alloc (sbox p S) = W0 ∧ w.heap.size = X) := ⟨hW0.symm, hX⟩
 have HB : Hid (_) := hb
 have hn1 := h.n1
 unfold lim at hn1
 clear hW0 hX hb h
 go_enter Tryz.func94, Tryz.ntmps94
 go_wp2_with fail
 rw [HW.out.1, HW.out.2]
 clear HW
 go_loopw [5] (fun i wr => ∃ n : Nat, i = .int .i64 (n : Int) ∧ n ≤ S.ino.length ∧ wr = W0 ∧ Hid (∀ j (hj : j < S.ino.length), j < n → (S.ino[j]).num ≠ num)) (fun i _ => (S.ino.length - intOf i).toNat)
 case atStart => exact ⟨0, rfl, by omega, rfl, fun j _ hj => by omega⟩
 case round =>
  obtain ⟨n, rfl, hn, hw, HJ⟩ := hrel
  subst hw
  have x0 := HB.out.x0
  by_cases hlt : n < S.ino.length
  ·
   have i0 : (0 : Int) ≤ (n : Int) := by omega
   have i1 : (n : Int) < (S.ino.length : Int) := by omega
   obtain ⟨b, o, ae, ce, ha, h1, -⟩ := HB.out.sv.ino n hlt
   rw [ha] at x0
   by_cases he : (S.ino[n]).num = num
   ·
    have HE : Hid (atR S.ino num = some n) := at_some hlt he HJ.out
    rw [he] at h1
    clear he HJ ha
    go_wp2_with fail
    go_ret
    exact ⟨ret_int (by rw [HE.out]; rfl), HB.out.k⟩
   ·
    have HE : Hid (∀ j (hj : j < S.ino.length), j < n + 1 → (S.ino[j]).num ≠ num) := fun j hj hjn => by
     by_cases e : j = n
     · subst e; exact he
     · exact HJ.out j hj (by omega)
    have e1 : ((S.ino[n]).num == num) = false := by simpa using he
    generalize (S.ino[n]).num = z at h1 he e1
    clear HJ ha
    go_wp2_with fail
    go_roundw
    case rel => exact ⟨n + 1, by go_num, by omega, trivial, HE.out⟩
    case measure => simp [intOf]; omega
  ·
   have i1 : ¬ (n : Int) < (S.ino.length : Int) := by omega
   have HE : Hid (atR S.ino num = none) := at_none fun j hj => HJ.out j hj (by omega)
   clear HJ
   go_wp2_with fail
   go_ret
   exact ⟨ret_int (by rw [HE.out]; rfl), HB.out.k⟩
theorem r_entry {w : World} {p : Pl} {S : Sta} (h : Sv w p S) (d : Int) (s : ByteArray) :
  Calls Tryz.prog 90 #[sval p S, .int .i64 d, .string s] w fun e w' => e = .returned (.int .i64 (entryR S.ino d s)) ∧ Kept [] w w' := by
 have HN : Hid (_) := h.n4
 have hb := h.boxed
 obtain ⟨W0, hW0⟩ : ∃ W0, W0 = w.alloc (sbox p S) := ⟨_, rfl⟩
 obtain ⟨X, hX⟩ : ∃ X, w.heap.size = X := ⟨_, rfl⟩
 rw [← hW0, hX] at hb
 have HW : Hid (w.alloc (sbox p S) = W0 ∧ w.heap.size = X) := ⟨hW0.symm, hX⟩
 have HB : Hid (_) := hb
 have hn1 := h.n1
 have hn2 := h.n2
 have hn3 := h.n3
 unfold lim at hn1 hn2 hn3
 clear hW0 hX hb h
 have q0 := HB.out.x0
 have q1 := HB.out.x1
 have q2 := HB.out.x2
 go_enter Tryz.func90, Tryz.ntmps90
 go_upto_region 1 with fail
 rw [HW.out.1, HW.out.2]
 clear HW
 go_wp2_with fail
 refine (r_at HB.out.sv d).mono ?_
 rintro e w1 ⟨rfl, k1⟩
 have HB1 : Hid (_) := HB.out.kept k1
 clear HB k1 q0 q1 q2
 rcases hat : atR S.ino d with _ | m
 ·
  have HE : Hid (entryR S.ino d s = 0) := by show _ = _; unfold entryR; rw [hat]
  clear hat
  unfold ixI
  go_wp2_with fail
  go_ret
  exact ⟨ret_int HE.out.symm, HB1.out.k⟩
 ·
  obtain ⟨hm, -⟩ := at_get hat
  have HE : Hid (entryR S.ino d s = entR (S.ino[m]).ents s) := by show _ = _; unfold entryR; rw [hat]; simp [hm]
  have hlim : (S.ino[m]).ents.length ≤ lim := HN.out _ (List.getElem_mem hm)
  unfold lim at hlim
  clear hat
  obtain ⟨b, o, ae, ce, ha, h0, h1, h2, h3, h4, h5⟩ := HB1.out.sv.ino m hm
  have q0 := HB1.out.x0
  rw [ha] at q0
  have HEn : Hid (EntA w1 ae (S.ino[m]).ents) := h4
  obtain ⟨E, hE⟩ : ∃ E, (S.ino[m]).ents = E := ⟨_, rfl⟩
  rw [hE] at HE HEn h2 hlim
  have i0 : (0 : Int) ≤ (m : Int) := by omega
  have i1 : (m : Int) < (S.ino.length : Int) := by omega
  have i2 : ¬ (m : Int) < 0 := by omega
  clear h0 h1 h3 h4 h5 hE ha
  unfold ixI
  go_wp2_with fail
  go_loopw [8] (fun i wr => ∃ n : Nat, i = .int .i64 (n : Int) ∧ n ≤ E.length ∧ wr = w1 ∧ Hid (∀ j (hj : j < E.length), j < n → ((E[j]).1.toList == s.toList) = false)) (fun i _ => (E.length - intOf i).toNat)
  case atStart => exact ⟨0, rfl, by omega, rfl, fun j _ hj => by omega⟩
  case round =>
   obtain ⟨n, rfl, hn, hw, HJ⟩ := hrel
   have hw2 := hw.symm
   subst hw2
   clear hw
   by_cases hlt : n < E.length
   ·
    have j0 : (0 : Int) ≤ (n : Int) := by omega
    have j1 : (n : Int) < (E.length : Int) := by omega
    obtain ⟨b', o', hb', g1, g2⟩ := HEn.out n hlt
    subst hb'
    rcases he : ((E[n]).1.toList == s.toList) with _ | _
    ·
     have HR : Hid (∀ j (hj : j < E.length), j < n + 1 → ((E[j]).1.toList == s.toList) = false) := fun j hj hjn => by
      by_cases e : j = n
      · subst e; exact he
      · exact HJ.out j hj (by omega)
     generalize (E[n]).1 = t at g1 he
     generalize (E[n]).2 = z at g2
     have he2 : ¬ t.toList = s.toList := by simpa using he
     clear HJ
     go_wp2_with fail
     go_roundw
     case rel => exact ⟨n + 1, by go_num, by omega, trivial, HR.out⟩
     case measure => simp [intOf]; omega
    ·
     have HR : Hid (entR E s = (E[n]).2) := ent_some hlt he HJ.out
     generalize (E[n]).1 = t at g1 he
     generalize (E[n]).2 = z at g2 HR
     have he2 : t.toList = s.toList := by simpa using he
     clear HJ
     go_wp2_with fail
     go_ret
     exact ⟨ret_int (by rw [HE.out, HR.out]), HB1.out.k⟩
   ·
    have j1 : ¬ (n : Int) < (E.length : Int) := by omega
    have HR : Hid (entR E s = 0) := ent_none fun j hj => HJ.out j hj (by omega)
    clear HJ
    go_wp2_with fail
    go_ret
    exact ⟨ret_int (by rw [HE.out, HR.out]), HB1.out.k⟩
theorem r_links {w : World} {p : Pl} {S : Sta} (h : Sv w p S) (num : Int) (hs : S.ino.length ≤ 60000) :
  Calls Tryz.prog 13 #[sval p S, .int .i64 num] w fun e w' => e = .returned (.int .i64 ((linksR S.ino num : Nat) : Int)) ∧ Kept [] w w' := by
 have HN : Hid (_) := h.n4
 have hb := h.boxed
 obtain ⟨W0, hW0⟩ : ∃ W0, W0 = w.alloc (sbox p S) := ⟨_, rfl⟩
 obtain ⟨X, hX⟩ : ∃ X, w.heap.size = X := ⟨_, rfl⟩
 rw [← hW0, hX] at hb
 have HW : Hid (w.alloc (sbox p S) = W0 ∧ w.heap.size = X) := ⟨hW0.symm, hX⟩
 have HB : Hid (_) := hb
 have hn1 := h.n1
 have hn2 := h.n2
 have hn3 := h.n3
 unfold lim at hn1 hn2 hn3
 clear hW0 hX hb h
 go_enter Tryz.func13, Tryz.ntmps13
 go_wp2_with fail
 rw [HW.out.1, HW.out.2]
 clear HW
 go_loopw [5, 6] (fun u i wr => ∃ n : Nat, i = .int .i64 (n : Int) ∧ u = .int .i64 ((linksR (S.ino.take n) num : Nat) : Int) ∧ n ≤ S.ino.length ∧ wr = W0) (fun _ i _ => (S.ino.length - intOf i).toNat)
 case atStart => exact ⟨0, rfl, rfl, by omega, rfl⟩
 case round =>
  obtain ⟨n, rfl, rfl, hn, hw⟩ := hrel
  subst hw
  have x0 := HB.out.x0
  by_cases hlt : n < S.ino.length
  ·
   have i0 : (0 : Int) ≤ (n : Int) := by omega
   have i1 : (n : Int) < (S.ino.length : Int) := by omega
   obtain ⟨b, o, ae, ce, ha, h0, h1, h2, h3, h4, h5⟩ := HB.out.sv.ino n hlt
   rw [ha] at x0
   have hlim : (S.ino[n]).ents.length ≤ 140737488355328 := HN.out _ (List.getElem_mem hlt)
   have hle : linksR (S.ino.take n) num ≤ 8444249301319680000 := links_big (by rw [List.length_take]; omega) fun x hx => HN.out x (List.mem_of_mem_take hx)
   have HL : Hid (_) := links_take (num := num) hlt
   have HEn : Hid (EntA wr ae (S.ino[n]).ents) := h4
   clear h0 h3 h4 h5 ha
   obtain ⟨q, hq⟩ : ∃ q, linksR (S.ino.take n) num = q := ⟨_, rfl⟩
   rw [hq] at hle HL ⊢
   clear hq
   obtain ⟨E, hE⟩ : ∃ E, (S.ino[n]).ents = E := ⟨_, rfl⟩
   rw [hE] at h2 hlim HL HEn
   clear hE
   rcases hdir : (S.ino[n]).dir with _ | _
   ·
    rw [hdir] at h1 HL
    have HL2 : Hid (linksR (S.ino.take (n + 1)) num = q) := by show _ = _; have := HL.out; simpa using this
    clear hdir HL
    go_wp2_with fail
    go_loopw [7, 5] (fun i u wr2 => i = .int .i64 0 ∧ u = .int .i64 (q : Int) ∧ wr2 = wr) (fun _ _ _ => 0)
    case atStart => exact ⟨rfl, rfl, rfl⟩
    case round =>
     obtain ⟨rfl, rfl, hw⟩ := hrel
     have hw2 := hw.symm
     subst hw2
     clear hw
     by_cases he0 : 0 < E.length
     ·
      have j1 : (0 : Int) < (E.length : Int) := by omega
      go_wp2_with fail
      go_roundw
      case rel => exact ⟨n + 1, by go_num, by rw [HL2.out], by omega, trivial⟩
      case measure => simp [intOf]; omega
     ·
      have j1 : ¬ (0 : Int) < (E.length : Int) := by omega
      go_wp2_with fail
      go_roundw
      case rel => exact ⟨n + 1, by go_num, by rw [HL2.out], by omega, trivial⟩
      case measure => simp [intOf]; omega
   ·
    rw [hdir] at h1 HL
    have HL2 : Hid (linksR (S.ino.take (n + 1)) num = q + cnt E num) := by show _ = _; have := HL.out; simpa using this
    clear hdir HL
    go_wp2_with fail
    go_loopw [7, 5] (fun i u wr2 => ∃ k : Nat, i = .int .i64 (k : Int) ∧ u = .int .i64 ((q + cnt (E.take k) num : Nat) : Int) ∧ k ≤ E.length ∧ wr2 = wr) (fun i _ _ => (E.length - intOf i).toNat)
    case atStart => exact ⟨0, rfl, rfl, by omega, rfl⟩
    case round =>
     obtain ⟨k, rfl, rfl, hk, hw⟩ := hrel
     have hw2 := hw.symm
     subst hw2
     clear hw
     by_cases hlk : k < E.length
     ·
      have j0 : (0 : Int) ≤ (k : Int) := by omega
      have j1 : (k : Int) < (E.length : Int) := by omega
      obtain ⟨b', o', hb', g1, g2⟩ := HEn.out k hlk
      subst hb'
      have hcl := cnt_le (E.take k) num
      rw [List.length_take] at hcl
      have HC : Hid (_) := cnt_take (num := num) hlk
      obtain ⟨z, hz⟩ : ∃ z, (E[k]).2 = z := ⟨_, rfl⟩
      rw [hz] at g2 HC
      generalize (E[k]).1 = t at g1
      clear hz
      obtain ⟨c0, hc0⟩ : ∃ c0, cnt (E.take k) num = c0 := ⟨_, rfl⟩
      rw [hc0] at hcl HC ⊢
      clear hc0
      by_cases he : z = num
      ·
       have HC2 : Hid (cnt (E.take (k + 1)) num = c0 + 1) := by have := HC.out; rw [if_pos he] at this; exact this
       subst he
       clear HC
       go_wp2_with fail
       go_roundw
       case rel => exact ⟨k + 1, by go_num, by rw [HC2.out]; go_num, by omega, trivial⟩
       case measure => simp [intOf]; omega
      ·
       have HC2 : Hid (cnt (E.take (k + 1)) num = c0) := by have := HC.out; rw [if_neg he] at this; exact this
       have he2 : (z == num) = false := by simpa using he
       clear HC
       go_wp2_with fail
       go_roundw
       case rel => exact ⟨k + 1, by go_num, by rw [HC2.out], by omega, trivial⟩
       case measure => simp [intOf]; omega
     ·
      have j1 : ¬ (k : Int) < (E.length : Int) := by omega
      have HC2 : Hid (cnt (E.take k) num = cnt E num) := by show _ = _; rw [List.take_of_length_le (by omega)]
      generalize cnt (E.take k) num = c0 at *
      go_wp2_with fail
      go_roundw
      case rel => exact ⟨n + 1, by go_num, by rw [HL2.out, HC2.out], by omega, trivial⟩
      case measure => simp [intOf]; omega
  ·
   have i1 : ¬ (n : Int) < (S.ino.length : Int) := by omega
   have HL : Hid (linksR (S.ino.take n) num = linksR S.ino num) := by show _ = _; rw [List.take_of_length_le (by omega)]
   generalize linksR (S.ino.take n) num = q at *
   go_wp2_with fail
   go_ret
   exact ⟨ret_int (by rw [HL.out]), HB.out.k⟩
theorem r_fd {w : World} {p : Pl} {S : Sta} (h : Sv w p S) (c f : Int) :
  Calls Tryz.prog 95 #[sval p S, .int .i64 c, .int .i64 f] w fun e w' => e = .returned (.int .i64 (fdR S.opn c f)) ∧ Kept [] w w' := by
 have hb := h.boxed
 obtain ⟨W0, hW0⟩ : ∃ W0, W0 = w.alloc (sbox p S) := ⟨_, rfl⟩
 obtain ⟨X, hX⟩ : ∃ X, w.heap.size = X := ⟨_, rfl⟩
 rw [← hW0, hX] at hb
 have HW : Hid (w.alloc (sbox p S) = W0 ∧ w.heap.size = X) := ⟨hW0.symm, hX⟩
 have HB : Hid (_) := hb
 have hn1 := h.n1
 have hn2 := h.n2
 have hn3 := h.n3
 unfold lim at hn1 hn2 hn3
 clear hW0 hX hb h
 go_enter Tryz.func95, Tryz.ntmps95
 go_wp2_with fail
 rw [HW.out.1, HW.out.2]
 clear HW
 go_loopw [7] (fun i wr => ∃ n : Nat, i = .int .i64 (n : Int) ∧ n ≤ S.opn.length ∧ wr = W0 ∧ Hid (∀ j (hj : j < S.opn.length), j < n → ¬ ((S.opn[j]).1 = c ∧ (S.opn[j]).2.1 = f))) (fun i _ => (S.opn.length - intOf i).toNat)
 case atStart => exact ⟨0, rfl, by omega, rfl, fun j _ hj => by omega⟩
 case round =>
  obtain ⟨n, rfl, hn, hw, HJ⟩ := hrel
  subst hw
  have x1 := HB.out.x1
  by_cases hlt : n < S.opn.length
  ·
   have i0 : (0 : Int) ≤ (n : Int) := by omega
   have i1 : (n : Int) < (S.opn.length : Int) := by omega
   obtain ⟨b, o, ha, h0, h1, h2⟩ := HB.out.sv.des n hlt
   rw [ha] at x1
   clear ha
   by_cases he : (S.opn[n]).1 = c ∧ (S.opn[n]).2.1 = f
   ·
    have HR : Hid (fdR S.opn c f = (S.opn[n]).2.2) := fd_some hlt he HJ.out
    rw [he.1] at h0
    rw [he.2] at h1
    generalize (S.opn[n]).2.2 = z at h2 HR
    clear he HJ
    go_wp2_with fail
    go_ret
    exact ⟨ret_int HR.out.symm, HB.out.k⟩
   ·
    have HR : Hid (∀ j (hj : j < S.opn.length), j < n + 1 → ¬ ((S.opn[j]).1 = c ∧ (S.opn[j]).2.1 = f)) := fun j hj hjn => by
     by_cases e : j = n
     · subst e; exact he
     · exact HJ.out j hj (by omega)
    clear HJ
    obtain ⟨x, hx⟩ : ∃ x, (S.opn[n]).1 = x := ⟨_, rfl⟩
    obtain ⟨y, hy⟩ : ∃ y, (S.opn[n]).2.1 = y := ⟨_, rfl⟩
    rw [hx] at h0 he
    rw [hy] at h1 he
    generalize (S.opn[n]).2.2 = z at h2
    clear hx hy
    by_cases e1 : x = c
    ·
     have e2 : ¬ y = f := fun e2 => he ⟨e1, e2⟩
     have e3 : (y == f) = false := by simpa using e2
     subst e1
     clear he
     go_wp2_with fail
     go_roundw
     case rel => exact ⟨n + 1, by go_num, by omega, trivial, HR.out⟩
     case measure => simp [intOf]; omega
    ·
     have e3 : (x == c) = false := by simpa using e1
     clear he
     go_wp2_with fail
     go_roundw
     case rel => exact ⟨n + 1, by go_num, by omega, trivial, HR.out⟩
     case measure => simp [intOf]; omega
  ·
   have i1 : ¬ (n : Int) < (S.opn.length : Int) := by omega
   have HR : Hid (fdR S.opn c f = 0) := fd_none fun j hj => HJ.out j hj (by omega)
   clear HJ
   go_wp2_with fail
   go_ret
   exact ⟨ret_int HR.out.symm, HB.out.k⟩
def isOpenR (D : List Ds) (num : Int) : Bool := D.any fun d => d.2.2 == num
theorem r_isopen {w : World} {p : Pl} {S : Sta} (h : Sv w p S) (num : Int) :
  Calls Tryz.prog 88 #[sval p S, .int .i64 num] w fun e w' => e = .returned (.bool (isOpenR S.opn num)) ∧ Kept [] w w' := by
 have hb := h.boxed
 obtain ⟨W0, hW0⟩ : ∃ W0, W0 = w.alloc (sbox p S) := ⟨_, rfl⟩
 obtain ⟨X, hX⟩ : ∃ X, w.heap.size = X := ⟨_, rfl⟩
 rw [← hW0, hX] at hb
 have HW : Hid (w.alloc (sbox p S) = W0 ∧ w.heap.size = X) := ⟨hW0.symm, hX⟩
 have HB : Hid (_) := hb
 have hn1 := h.n1
 have hn2 := h.n2
 have hn3 := h.n3
 unfold lim at hn1 hn2 hn3
 clear hW0 hX hb h
 go_enter Tryz.func88, Tryz.ntmps88
 go_wp2_with fail
 rw [HW.out.1, HW.out.2]
 clear HW
 go_loopw [5] (fun i wr => ∃ n : Nat, i = .int .i64 (n : Int) ∧ n ≤ S.opn.length ∧ wr = W0 ∧ Hid (∀ j (hj : j < S.opn.length), j < n → (S.opn[j]).2.2 ≠ num)) (fun i _ => (S.opn.length - intOf i).toNat)
 case atStart => exact ⟨0, rfl, by omega, rfl, fun j _ hj => by omega⟩
 case round =>
  obtain ⟨n, rfl, hn, hw, HJ⟩ := hrel
  subst hw
  have x1 := HB.out.x1
  by_cases hlt : n < S.opn.length
  ·
   have i0 : (0 : Int) ≤ (n : Int) := by omega
   have i1 : (n : Int) < (S.opn.length : Int) := by omega
   obtain ⟨b, o, ha, h0, h1, h2⟩ := HB.out.sv.des n hlt
   rw [ha] at x1
   clear ha h0 h1
   by_cases he : (S.opn[n]).2.2 = num
   ·
    have HR : Hid (isOpenR S.opn num = true) := by
     show _ = _
     unfold isOpenR
     rw [List.any_eq_true]
     exact ⟨_, List.getElem_mem hlt, by simpa using he⟩
    rw [he] at h2
    clear he HJ
    go_wp2_with fail
    go_ret
    exact ⟨ret_bool HR.out.symm, HB.out.k⟩
   ·
    have HR : Hid (∀ j (hj : j < S.opn.length), j < n + 1 → (S.opn[j]).2.2 ≠ num) := fun j hj hjn => by
     by_cases e : j = n
     · subst e; exact he
     · exact HJ.out j hj (by omega)
    have e1 : ((S.opn[n]).2.2 == num) = false := by simpa using he
    generalize (S.opn[n]).2.2 = z at h2 he e1
    clear HJ
    go_wp2_with fail
    go_roundw
    case rel => exact ⟨n + 1, by go_num, by omega, trivial, HR.out⟩
    case measure => simp [intOf]; omega
  ·
   have i1 : ¬ (n : Int) < (S.opn.length : Int) := by omega
   have HR : Hid (isOpenR S.opn num = false) := by
    show _ = _
    unfold isOpenR
    rw [List.any_eq_false]
    intro x hx
    obtain ⟨j, hj, rfl⟩ := List.getElem_of_mem hx
    simpa using HJ.out j hj (by omega)
   clear HJ
   go_wp2_with fail
   go_ret
   exact ⟨ret_bool HR.out.symm, HB.out.k⟩
theorem byte_list {a : ByteArray} {i : Nat} (h : i < a.size) : ∃ h' : i < a.toList.length, (a.toList[i]'h').toNat = (a[i]'h).toNat := by
 have e : a.toList = a.data.toList := ByteArray.toList_eq ..
 have hl : i < a.data.toList.length := by simpa using h
 refine ⟨by rw [e]; exact hl, ?_⟩
 congr 1
 have : a.toList[i]? = a.data.toList[i]? := by rw [e]
 rw [List.getElem?_eq_getElem (by rw [e]; exact hl), List.getElem?_eq_getElem hl] at this
 have h2 := Option.some.inj this
 rw [h2]
 rfl
theorem toList_len (a : ByteArray) : a.toList.length = a.size := by rw [ByteArray.toList_eq]; simp
theorem f_below (a b : ByteArray) (w : World) (ha : a.size ≤ 12) (hb : b.size ≤ 12) :
  Calls Tryz.prog 11 #[.string a, .string b] w fun e w' => e = .returned (.bool (below a b)) ∧ ∃ m, w' = w.drewN m := by
 go_enter Tryz.func11, Tryz.ntmps11
 go_wp2_with fail
 go_loopw [5] (fun i wr => ∃ j m : Nat, i = .int .i64 (j : Int) ∧ j ≤ 12 ∧ j ≤ a.size ∧ Hid (wr = w.drewN m ∧ lx (a.toList.drop j) (b.toList.drop j) = below a b)) (fun i _ => (12 - intOf i).toNat)
 case atStart => exact ⟨0, 0, rfl, by omega, by omega, rfl, rfl⟩
 case round =>
  obtain ⟨j, m, rfl, hj, hja, HJ⟩ := hrel
  by_cases h1 : j < a.size ∧ j < b.size
  ·
   obtain ⟨h1, h2⟩ := h1
   have i0 : (0 : Int) ≤ (j : Int) := by omega
   have i1 : (j : Int) < (a.size : Int) := by omega
   have i2 : (j : Int) < (b.size : Int) := by omega
   obtain ⟨p1, q1⟩ := byte_list h1
   obtain ⟨p2, q2⟩ := byte_list h2
   obtain ⟨x, hx⟩ : ∃ x, (a[j]'h1).toNat = x := ⟨_, rfl⟩
   obtain ⟨y, hy⟩ : ∃ y, (b[j]'h2).toNat = y := ⟨_, rfl⟩
   by_cases hxy : x = y
   ·
    have H2 : Hid (lx (a.toList.drop (j + 1)) (b.toList.drop (j + 1)) = below a b) := by
     have := lx_drop_eq p1 p2 (by rw [q1, q2, hx, hy, hxy])
     rw [HJ.out.2] at this
     exact this.symm
    have t0 : (((a[j]'h1).toNat : Int) == ((b[j]'h2).toNat : Int)) = true := by rw [hx, hy, hxy]; simp
    have t1 : (((a[j]'h1).toNat : Int) != ((b[j]'h2).toNat : Int)) = false := by rw [hx, hy, hxy]; simp
    have t2 : (a[j]'h1).toNat = (b[j]'h2).toNat := by rw [hx, hy, hxy]
    have hw : Hid (_) := HJ.out.1
    clear q1 q2 hx hy HJ
    go_wp2_with fail
    go_quiet (fail)
    go_wp2
    go_roundw
    case rel => exact ⟨j + 1, m + nq, by go_num, by omega, by omega, by rw [hw.out, World.drewN_drewN], H2.out⟩
    case measure => simp [intOf]; omega
   ·
    have hne : (a.toList[j]'p1).toNat ≠ (b.toList[j]'p2).toNat := by rw [q1, q2, hx, hy]; exact hxy
    have H2 : Hid (decide (((a[j]'h1).toNat : Int) < ((b[j]'h2).toNat : Int)) = below a b) := by
     have := lx_drop_lt p1 p2 hne
     rw [HJ.out.2, q1, q2] at this
     rw [Hid, this]
     simp
    have t0 : (((a[j]'h1).toNat : Int) == ((b[j]'h2).toNat : Int)) = false := by rw [hx, hy]; simp; omega
    have t1 : (((a[j]'h1).toNat : Int) != ((b[j]'h2).toNat : Int)) = true := by rw [hx, hy]; simp; omega
    have t2 : ¬ (a[j]'h1).toNat = (b[j]'h2).toNat := by rw [hx, hy]; exact hxy
    have hw : Hid (_) := HJ.out.1
    clear q1 q2 hx hy HJ hne
    go_wp2_with fail
    go_quiet (fail)
    go_wp2
    go_quiet (fail)
    go_wp2
    go_ret
    exact ⟨ret_bool (by simpa using H2.out), by rw [hw.out, World.drewN_drewN, World.drewN_drewN]; exact ⟨_, rfl⟩⟩
  ·
   have hw : Hid (_) := HJ.out.1
   have H2 : Hid (decide ((a.size : Int) < (b.size : Int)) = below a b) := by
    have := lx_drop_end (l := a.toList) (m := b.toList) (i := j) (by rw [toList_len, toList_len]; omega)
    rw [HJ.out.2, toList_len, toList_len] at this
    rw [Hid, this]
    simp only [decide_eq_decide]
    omega
   clear HJ
   by_cases h2 : j < a.size
   ·
    have i1 : (j : Int) < (a.size : Int) := by omega
    have i2 : ¬ (j : Int) < (b.size : Int) := by omega
    go_wp2_with fail
    go_ret
    exact ⟨ret_bool (by simpa using H2.out), by rw [hw.out]; exact ⟨_, rfl⟩⟩
   ·
    have i1 : ¬ (j : Int) < (a.size : Int) := by omega
    go_wp2_with fail
    go_ret
    exact ⟨ret_bool (by simpa using H2.out), by rw [hw.out]; exact ⟨_, rfl⟩⟩
def GivenP (M : List Int) (num : Int) : Prop := 2 ≤ num ∧ ∃ z, M[((num - 2) % 8).toNat]? = some z ∧ (num - 2) / 8 < z
theorem given_iff (M : List Int) {num : Int} {m : Nat} (hm : num - 2 = (m : Int)) : GivenP M num ↔ ∃ z, M[m % 8]? = some z ∧ ((m / 8 : Nat) : Int) < z := by
 unfold GivenP
 have e5 : ((num - 2) % 8).toNat = m % 8 := by omega
 have e6 : (num - 2) / 8 = ((m / 8 : Nat) : Int) := by omega
 rw [e5, e6]
 exact ⟨fun g => g.2, fun g => ⟨by omega, g⟩⟩
theorem r_given {w : World} {p : Pl} {S : Sta} (h : Sv w p S) (num : Int) (hn : num ≤ 9223372036854775807) (r : Bool) (hr : r = true ↔ GivenP S.made num) :
  Calls Tryz.prog 86 #[sval p S, .int .i64 num] w fun e w' => e = .returned (.bool r) ∧ Kept [] w w' := by
 have hb := h.boxed
 obtain ⟨W0, hW0⟩ : ∃ W0, W0 = w.alloc (sbox p S) := ⟨_, rfl⟩
 obtain ⟨X, hX⟩ : ∃ X, w.heap.size = X := ⟨_, rfl⟩
 rw [← hW0, hX] at hb
 have HW : Hid (w.alloc (sbox p S) = W0 ∧ w.heap.size = X) := ⟨hW0.symm, hX⟩
 have HB : Hid (_) := hb
 have hn1 := h.n1
 have hn2 := h.n2
 have hn3 := h.n3
 unfold lim at hn1 hn2 hn3
 clear hW0 hX hb h
 have HR : Hid (_) := hr
 clear hr
 have q0 := HB.out.x0
 have q1 := HB.out.x1
 have q2 := HB.out.x2
 by_cases h2 : num < 2
 ·
  have HF : Hid (false = r) := by
   show _ = _
   rcases hr2 : r with _ | _
   · rfl
   · have := (HR.out.1 hr2).1; omega
  go_enter Tryz.func86, Tryz.ntmps86
  go_upto_region 1 with fail
  rw [HW.out.1, HW.out.2]
  go_wp2_with fail
  go_ret
  exact ⟨ret_bool HF.out, HB.out.k⟩
 ·
  obtain ⟨m, hm⟩ : ∃ m : Nat, num - 2 = (m : Int) := ⟨(num - 2).toNat, by omega⟩
  have HG : Hid (_) := given_iff S.made hm
  have e1 : (num - 2) % 8 = ((m % 8 : Nat) : Int) := by omega
  have e2 : (num - 2) / 8 = ((m / 8 : Nat) : Int) := by omega
  have hc8 : m % 8 < 8 := by omega
  obtain ⟨c, hc⟩ : ∃ c, m % 8 = c := ⟨_, rfl⟩
  obtain ⟨d, hd⟩ : ∃ d, m / 8 = d := ⟨_, rfl⟩
  have HE : Hid (_ ∧ _) := ⟨e1, e2⟩
  rw [hc, hd] at HE
  rw [hc, hd] at HG
  rw [hc] at hc8
  clear e1 e2 hc hd hm
  by_cases hl : c < S.made.length
  ·
   obtain ⟨b, o, ha, h1⟩ := HB.out.sv.mad c hl
   rw [ha] at q2
   obtain ⟨z, hz⟩ : ∃ z, S.made[c] = z := ⟨_, rfl⟩
   rw [hz] at h1
   have HF : Hid (decide ((d : Int) < z) = r) := by
    show _ = _
    rcases hr2 : r with _ | _
    ·
     rw [decide_eq_false_iff_not]
     intro hlt
     have := HR.out.2 (HG.out.2 ⟨z, by rw [List.getElem?_eq_getElem hl, hz], hlt⟩)
     rw [hr2] at this
     cases this
    ·
     rw [decide_eq_true_eq]
     obtain ⟨z', g1, g2⟩ := HG.out.1 (HR.out.1 hr2)
     rw [List.getElem?_eq_getElem hl, hz] at g1
     have := Option.some.inj g1
     omega
   have i0 : (c : Int) < (S.made.length : Int) := by omega
   have i1 : (0 : Int) ≤ (c : Int) := by omega
   clear HG ha hz
   go_enter Tryz.func86, Tryz.ntmps86
   go_upto_region 1 with fail
   rw [HW.out.1, HW.out.2]
   go_upto_region 4 with fail
   rw [HE.out.1]
   go_wp2_with fail
   go_ret
   refine ⟨?_, HB.out.k⟩
   first
    | exact ret_bool HF.out
    | (rw [HE.out.2]; exact ret_bool HF.out)
    | (simp only [HE.out.2]; exact ret_bool HF.out)
  ·
   have HF : Hid (false = r) := by
    show _ = _
    rcases hr2 : r with _ | _
    · rfl
    ·
     obtain ⟨z', g1, g2⟩ := HG.out.1 (HR.out.1 hr2)
     rw [List.getElem?_eq_none (by omega)] at g1
     cases g1
   have i0 : ¬ (c : Int) < (S.made.length : Int) := by omega
   clear HG
   go_enter Tryz.func86, Tryz.ntmps86
   go_upto_region 1 with fail
   rw [HW.out.1, HW.out.2]
   go_upto_region 4 with fail
   rw [HE.out.1]
   go_wp2_with fail
   go_ret
   exact ⟨ret_bool HF.out, HB.out.k⟩
end Go.Proofs.YtffncojcnbhblaaGreatDoor
