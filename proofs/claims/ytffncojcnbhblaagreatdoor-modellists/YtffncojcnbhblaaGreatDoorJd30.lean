/-
  Joined of my texts Qf Rk.
-/
import Derived.Test.YtffncojcnbhblaaGreatDoorJd29
import Derived.BigQuiet
import Derived.Deep.CutRange
import Derived.Deep.CutBlock
import Derived.Test.YtffncojcnbhblaaGreatDoorJd1
set_option linter.unusedVariables false
set_option linter.unusedSimpArgs false
set_option maxRecDepth 100000
set_option maxHeartbeats 8000000
namespace Go.Proofs.YtffncojcnbhblaaGreatDoor
open Go.RowKit
def Found (S : Sta) (w : World) (e : Ending) (w' : World) : Prop :=
 ∃ (B : Nat) (F : Nat → Bool), e = .returned (.slice (some ⟨B, 0, none⟩) S.ino.length S.ino.length) ∧ w'.heap[B]? = some (.cells (rowF S.ino.length fun j => .bool (F j)) 4 (0, 0)) ∧ (∀ k, F k = true ↔ Reach S k) ∧ Kept [] w w'
theorem Own.last {w : World} {H : Nat} {u : Value} {ys : List Int} {t : Int} (h : Own w H u (ys ++ [t])) : ∃ g cap, u = .slice (some ⟨g, 0, none⟩) (ys.length + 1) cap ∧ ys.length + 1 ≤ cap ∧ w.cell? ⟨g, ys.length, none⟩ = some (.int .i64 t) := by
 rcases h.form with ⟨-, h2⟩ | ⟨g, cap, cur, h1, h2, h3, h4, h5, h6, h7⟩
 · simp at h2
 ·
  rw [List.length_append] at h1 h4
  refine ⟨g, cap, h1, h4, ?_⟩
  rw [h1] at h
  have h8 := h.lies.2.2.2 ys.length (by simp)
  rw [h8]
  unfold wordAt
  simp
theorem Own.none {w : World} {H : Nat} {u : Value} (h : Own w H u []) : ∃ a cap, u = .slice a 0 cap := by
 rcases h.form with ⟨h1, -⟩ | ⟨g, cap, cur, h1, -⟩
 · exact ⟨_, _, h1⟩
 · exact ⟨_, _, h1⟩
theorem Own.any {w : World} {H : Nat} {u : Value} {xs : List Int} (h : Own w H u xs) : ∃ a cap, u = .slice a xs.length cap := by
 rcases h.form with ⟨h1, h2⟩ | ⟨g, cap, cur, h1, -⟩
 · subst h2; exact ⟨_, _, h1⟩
 · exact ⟨_, _, h1⟩
theorem r_reached {w : World} {p : Pl} {S : Sta} (h : Sv w p S) (hs : S.ino.length ≤ 257) (ht : tot S ≤ 17592186044000) : Calls Tryz.prog 85 #[sval p S] w (Found S w) := by
 have HSV : Hid (Sv w p S) := h
 have HT : Hid (tot S ≤ 17592186044000) := ht
 have hmk := make_bools S.ino.length (by omega)
 obtain ⟨rb, hrb⟩ : ∃ rb, rb = rowF S.ino.length (fun _ => Value.bool false) := ⟨_, rfl⟩
 rw [← hrb] at hmk
 have g0 := Go.heap_alloc_new w (sbox p S)
 have s1 : (w.alloc (sbox p S)).heap.size = w.heap.size + 1 := by simp
 have s2 : ((w.alloc (sbox p S)).alloc (.cells rb 4 (0, 0))).heap.size = w.heap.size + 1 + 1 := by simp
 have g1 := Go.heap_alloc_new (w.alloc (sbox p S)) (.cells rb 4 (0, 0))
 have g2 := Go.heap_alloc_new ((w.alloc (sbox p S)).alloc (.cells rb 4 (0, 0))) (.cells #[.int .i64 1] 3 (0, 0))
 rw [s1] at g1
 rw [s2] at g2
 have kk1 : Kept [] (w.alloc (sbox p S)) (((w.alloc (sbox p S)).alloc (.cells rb 4 (0, 0))).alloc (.cells #[.int .i64 1] 3 (0, 0))) := ((Kept.refl [] _).alloc _).alloc _
 have kk2 : Kept [] ((w.alloc (sbox p S)).alloc (.cells rb 4 (0, 0))) (((w.alloc (sbox p S)).alloc (.cells rb 4 (0, 0))).alloc (.cells #[.int .i64 1] 3 (0, 0))) := (Kept.refl [] _).alloc _
 have hrk : Rk w (((w.alloc (sbox p S)).alloc (.cells rb 4 (0, 0))).alloc (.cells #[.int .i64 1] 3 (0, 0))) w.heap.size (w.heap.size + 1) p S (fun _ => false) (.slice (some ⟨w.heap.size + 1 + 1, 0, none⟩) 1 1) [1] := by
  refine ⟨(((Kept.refl [] w).alloc _).alloc _).alloc _, (kk1.block _ (by omega) (by simp)).trans g0, ?_, ?_, by simp [Value.ownBlock]; omega, by simp [Value.ownBlock], by omega, by omega⟩
  · rw [kk2.block _ (by omega) (by simp), g1, hrb]
  · exact ⟨by simp, Or.inr ⟨_, 1, _, rfl, by omega, g2, by simp, by unfold maxLen; omega, by simp, by simp⟩⟩
 obtain ⟨W0, hW0⟩ : ∃ W0, W0 = ((w.alloc (sbox p S)).alloc (.cells rb 4 (0, 0))).alloc (.cells #[.int .i64 1] 3 (0, 0)) := ⟨_, rfl⟩
 obtain ⟨X, hX⟩ : ∃ X, w.heap.size = X := ⟨_, rfl⟩
 obtain ⟨B, hB⟩ : ∃ B, X + 1 = B := ⟨_, rfl⟩
 obtain ⟨T, hT⟩ : ∃ T, B + 1 = T := ⟨_, rfl⟩
 rw [← hW0, hX, hB, hT] at hrk
 have HW : Hid (_ ∧ _ ∧ _ ∧ _) := ⟨hW0.symm, hX, hB, hT⟩
 have HK : Hid (_) := hrk
 have q0 : (w.alloc (sbox p S)).cell? ⟨w.heap.size, 0, none⟩ = some (.slice p.a1 S.ino.length p.c1) := cell_new _ _ _ _
 clear hrk hW0 hX hB hT g0 g1 g2 s1 s2 kk1 kk2 hrb h ht
 go_enter Tryz.func85, Tryz.ntmps85
 go_wp2_with fail
 rw [HW.out.1, HW.out.2.1, HW.out.2.2.1, HW.out.2.2.2]
 clear HW hmk q0
 go_loopw [4] (fun u wr => ∃ F xs, Hid (Rk w wr X B p S F u xs ∧ Jr S F xs)) (fun u wr => lenOf u + remM S B wr)
 case atStart => exact ⟨_, [1], HK.out, Jr.start S⟩
 case round =>
  clear HK
  obtain ⟨F, xs, HI⟩ := hrel
  rcases List.eq_nil_or_concat xs with rfl | ⟨ys, t, rfl⟩
  ·
   obtain ⟨a, cap, hu⟩ := Own.none HI.out.1.ow
   subst hu
   have HF : Hid (_ ∧ _ ∧ _) := ⟨HI.out.1.hb, HI.out.2.all, HI.out.1.k⟩
   clear HI
   go_wp2_with fail
   go_ret
   exact ⟨B, F, rfl, HF.out⟩
  ·
   rw [List.concat_eq_append] at HI
   obtain ⟨g, cap, hu, hcap, hc0⟩ := Own.last HI.out.1.ow
   subst hu
   have HMS0 : Hid (remM S B wr = rem S F S.ino.length) := remM_eq HI.out.1.hb
   have HJ : Hid (Jr S F (ys ++ [t])) := HI.out.2
   have hcnt := HI.out.2.cnt
   rw [List.length_append] at hcnt
   simp only [List.length_cons, List.length_nil] at hcnt
   have htt := HT.out
   have HR : Hid (Rk w wr.drew X B p S F (.slice (some ⟨g, 0, none⟩) (ys.length + 1) cap) (ys ++ [t])) := HI.out.1.kept (Kept.refl [] wr).drew
   obtain ⟨m, hm⟩ : ∃ m, ys.length = m := ⟨_, rfl⟩
   have HM : Hid (m = ys.length) := hm.symm
   have HC : Hid (wr.drew.cell? ⟨X, 0, none⟩ = some (.slice p.a1 S.ino.length p.c1) ∧ wr.drew.cell? ⟨X, 1, none⟩ = some (.slice p.a2 S.opn.length p.c2) ∧ wr.drew.cell? ⟨X, 2, none⟩ = some (.slice p.a3 S.made.length p.c3) ∧ wr.drew.cell? ⟨g, ys.length, none⟩ = some (.int .i64 t)) := ⟨(cellB HR.out.hx).trans rfl, (cellB HR.out.hx).trans rfl, (cellB HR.out.hx).trans rfl, (Kept.refl [] wr).drew.cell hc0 (by simp)⟩
   rw [hm] at HC HR hcap hcnt
   rw [hm]
   clear HI hc0 hm
   have v0 : (0 : Int) ≤ (m : Int) := by omega
   have v1 : (m : Int) < (m : Int) + 1 := by omega
   have v4 : (0 : Int) < (m : Int) + 1 := by omega
   have hm62 : (m : Int) ≤ 17592186044416 := by omega
   have v2 : IntKind.i64.wrap ((m : Int) + 1 - 1) = (m : Int) := by rw [IntKind.wrap_i64]; omega
   have v3 : (m : Int) + 1 - 1 = (m : Int) := by omega
   have v7 : IntKind.i64.wrap (m : Int) = (m : Int) := by rw [IntKind.wrap_i64]; omega
   have v8 : (m : Int) < ((m + 1 : Nat) : Int) := by omega
   have v9 : m < m + 1 := by omega
   go_wp2_with fail
   go_region_held3 (fun w' => w'.cell? ⟨X, 0, none⟩ = some (.slice p.a1 S.ino.length p.c1) ∧ w'.cell? ⟨X, 1, none⟩ = some (.slice p.a2 S.opn.length p.c2) ∧ w'.cell? ⟨X, 2, none⟩ = some (.slice p.a3 S.made.length p.c3) ∧ w'.cell? ⟨g, m, none⟩ = some (.int .i64 t)) (first | exact HC.out | exact z4 | go_keep)
    (first
     | (go_at_call 94; refine (r_at (HSV.out.kept HR.out.k) t).mono ?_; rintro e w4 ⟨rfl, k4⟩; have z4 := (⟨k4.cell HC.out.1 (by simp), k4.cell HC.out.2.1 (by simp), k4.cell HC.out.2.2.1 (by simp), k4.cell HC.out.2.2.2 (by simp)⟩ : w4.cell? ⟨X, 0, none⟩ = some (.slice p.a1 S.ino.length p.c1) ∧ w4.cell? ⟨X, 1, none⟩ = some (.slice p.a2 S.opn.length p.c2) ∧ w4.cell? ⟨X, 2, none⟩ = some (.slice p.a3 S.made.length p.c3) ∧ w4.cell? ⟨g, m, none⟩ = some (.int .i64 t)); have HR3 : Hid (_) := HR.out.kept k4; clear k4))
   clear z4 HC HR
   have w1 : (0 : Int) ≤ (m : Int) := by omega
   have w2 : (m : Int) ≤ (cap : Int) := by omega
   rcases hat : atR S.ino t with _ | k
   ·
    unfold ixI
    have H5 : Hid (Rk w w4 X B p S F (.slice (some ⟨g, 0, none⟩) m cap) ys ∧ Jr S F ys) := ⟨⟨HR3.out.k, HR3.out.hx, HR3.out.hb, by rw [HM.out]; exact Own.pop HR3.out.ow, HR3.out.ux, HR3.out.ub, HR3.out.lo, HR3.out.xb⟩, HJ.out.skip fun k' hk' => by rw [hat] at hk'; cases hk'⟩
    have HMS : Hid (remM S B w4 = rem S F S.ino.length) := remM_eq HR3.out.hb
    clear HR3 hat
    go_wp2_with fail
    go_roundw
    case rel => exact ⟨F, ys, H5.out⟩
    case measure => rw [HMS.out, HMS0.out]; simp only [lenOf]; omega
   ·
    unfold ixI
    obtain ⟨hk, -⟩ := at_get hat
    have j0 : (0 : Int) ≤ (k : Int) := by omega
    have j1 : (k : Int) < (S.ino.length : Int) := by omega
    have j2 : ¬ (k : Int) < 0 := by omega
    have j3 : decide ((k : Int) < 0) = false := by simp
    have oc : w4.cell? ⟨B, k, none⟩ = some (.bool (F k)) := (cellB HR3.out.hb).trans (rowF_get _ hk)
    have fz : w4.frozen? ⟨B, k, none⟩ = false := frozen_of_row _ _ _ _ _ HR3.out.hb
    rcases hF : F k with _ | _
    ·
     rw [hF] at oc
     have hxk : S.ino[k]? = some S.ino[k] := List.getElem?_eq_getElem hk
     have HJ2 : Hid (Jr S (updB F k) (ys ++ outs S.ino[k])) := HJ.out.mark hat hF hxk
     have hel : el S k = (S.ino[k]).ents.length := by unfold el; rw [hxk]; rfl
     have HRM : Hid (rem S (updB F k) S.ino.length + (S.ino[k]).ents.length = rem S F S.ino.length) := by show _ = _; rw [← hel]; exact rem_mark S F hF S.ino.length hk
     have HR4 : Hid (Rk w (w4.setCell ⟨B, k, none⟩ (.bool true)) X B p S (updB F k) (.slice (some ⟨g, 0, none⟩) m cap) ys) := by
      have hp : Rk w w4 X B p S F (.slice (some ⟨g, 0, none⟩) m cap) ys := ⟨HR3.out.k, HR3.out.hx, HR3.out.hb, by rw [HM.out]; exact Own.pop HR3.out.ow, HR3.out.ux, HR3.out.ub, HR3.out.lo, HR3.out.xb⟩
      exact hp.mark k
     have HLN : Hid ((S.ino[k]).ents.length ≤ 140737488355328) := HSV.out.n4 _ (List.getElem_mem hk)
     obtain ⟨x, hx⟩ : ∃ x, S.ino[k] = x := ⟨_, rfl⟩
     rw [hx] at HJ2 HRM HLN
     have HXK : Hid (S.ino[k] = x) := hx
     clear HR3 HJ hat hF hxk hel hx
     have hln := HLN.out
     have hrm := HRM.out
     go_wp2_with fail
     obtain ⟨W5, hW5⟩ : ∃ W5, W5 = w4.setCell ⟨B, k, none⟩ (.bool true) := ⟨_, rfl⟩
     rw [← hW5] at HR4 ⊢
     clear hW5 oc fz
     rcases hdir : x.dir with _ | _
     ·
      have HO : Hid (ys ++ outs x = ys) := by show _ = _; unfold outs; rw [hdir]; simp
      go_loopw [6, 4] (fun i u wr2 => i = .int .i64 0 ∧ u = .slice (some ⟨g, 0, none⟩) m cap ∧ wr2 = W5) (fun _ _ _ => 0)
      case atStart => exact ⟨rfl, rfl, rfl⟩
      case round =>
       obtain ⟨rfl, rfl, hw⟩ := hrel
       have hw2 := hw.symm
       subst hw2
       clear hw
       obtain ⟨b, o, ae, ce, ha, h0, h1, h2, h3, h4, h5⟩ := (HSV.out.kept HR4.out.k).ino k hk
       have x0 : W5.cell? ⟨X, 0, none⟩ = some (.slice p.a1 S.ino.length p.c1) := (cellB HR4.out.hx).trans rfl
       rw [ha] at x0
       rw [HXK.out] at h1 h2
       rw [hdir] at h1
       have H6 : Hid (Rk w W5 X B p S (updB F k) (.slice (some ⟨g, 0, none⟩) m cap) ys ∧ Jr S (updB F k) ys) := ⟨HR4.out, by have := HJ2.out; rw [HO.out] at this; exact this⟩
       have HMS : Hid (remM S B W5 = rem S (updB F k) S.ino.length) := remM_eq HR4.out.hb
       clear ha h0 h3 h4 h5 HR4 HJ2 HO
       by_cases he0 : 0 < x.ents.length
       ·
        have p1 : (0 : Int) < (x.ents.length : Int) := by omega
        go_wp2_with fail
        go_roundw
        case rel => exact ⟨_, _, H6.out⟩
        case measure => rw [HMS.out, HMS0.out]; simp only [lenOf]; omega
       ·
        have p1 : ¬ (0 : Int) < (x.ents.length : Int) := by omega
        go_wp2_with fail
        go_roundw
        case rel => exact ⟨_, _, H6.out⟩
        case measure => rw [HMS.out, HMS0.out]; simp only [lenOf]; omega
     ·
      have HO : Hid (outs x = x.ents.map (·.2)) := by show _ = _; unfold outs; rw [if_pos hdir]
      go_loopw [6, 4] (fun i u wr2 => ∃ n : Nat, i = .int .i64 (n : Int) ∧ n ≤ x.ents.length ∧ Hid (Rk w wr2 X B p S (updB F k) u (ys ++ (x.ents.take n).map (·.2)))) (fun i _ _ => (x.ents.length - intOf i).toNat)
      case atStart => exact ⟨0, rfl, by omega, by show Rk _ _ _ _ _ _ _ _ _; simpa using HR4.out⟩
      case round =>
       clear HR4
       obtain ⟨n, rfl, hn, HQ⟩ := hrel
       obtain ⟨ua, uc, hu⟩ := Own.any HQ.out.ow
       subst hu
       have hul : (ys ++ (x.ents.take n).map (·.2)).length = m + n := by rw [List.length_append, List.length_map, List.length_take, HM.out]; omega
       rw [hul] at HQ ⊢
       obtain ⟨b, o, ae, ce, ha, h0, h1, h2, h3, h4, h5⟩ := (HSV.out.kept HQ.out.k).ino k hk
       have x0 : wr.cell? ⟨X, 0, none⟩ = some (.slice p.a1 S.ino.length p.c1) := (cellB HQ.out.hx).trans rfl
       rw [ha] at x0
       rw [HXK.out] at h1 h2
       rw [hdir] at h1
       have HEn : Hid (EntA wr ae x.ents) := by have := h4; rw [HXK.out] at this; exact this
       clear ha h0 h3 h4 h5
       by_cases hlt : n < x.ents.length
       ·
        have p0 : (0 : Int) ≤ (n : Int) := by omega
        have p1 : (n : Int) < (x.ents.length : Int) := by omega
        obtain ⟨b', o', hb', e1, e2⟩ := HEn.out n hlt
        subst hb'
        obtain ⟨v', w', hr, hR'⟩ := Rk.append HQ.out (x.ents[n]).2 (by rw [hul]; omega) 24
        have HA : Hid (_) := hr
        have HN : Hid (Rk w w' X B p S (updB F k) v' (ys ++ (x.ents.take (n + 1)).map (·.2))) := by
         show Rk _ _ _ _ _ _ _ _ _
         rw [List.take_succ_eq_append_getElem hlt, List.map_append, ← List.append_assoc]
         exact hR'
        generalize (x.ents[n]).2 = z at e2 HA
        generalize (x.ents[n]).1 = s at e1
        clear hr hR' HQ
        go_wp2_with (first
         | (at_builtin; refine wpList_append_run _ rfl _ _ 25 25 rfl _ _ rfl rfl v' w' HA.out ?_))
        go_roundw
        case rel => exact ⟨n + 1, by go_num, by omega, HN.out⟩
        case measure => simp [intOf]; omega
       ·
        have p1 : ¬ (n : Int) < (x.ents.length : Int) := by omega
        have hnn : n = x.ents.length := by omega
        have H6 : Hid (Rk w wr X B p S (updB F k) (.slice ua (m + n) uc) (ys ++ outs x) ∧ Jr S (updB F k) (ys ++ outs x)) := ⟨by
         have := HQ.out
         rw [List.take_of_length_le (by omega)] at this
         rw [HO.out]
         exact this, HJ2.out⟩
        have HMS : Hid (remM S B wr = rem S (updB F k) S.ino.length) := remM_eq HQ.out.hb
        clear HQ
        go_wp2_with fail
        go_roundw
        case rel => exact ⟨_, _, H6.out⟩
        case measure => rw [HMS.out, HMS0.out]; simp only [lenOf]; omega
    ·
     rw [hF] at oc
     have H5 : Hid (Rk w w4 X B p S F (.slice (some ⟨g, 0, none⟩) m cap) ys ∧ Jr S F ys) := ⟨⟨HR3.out.k, HR3.out.hx, HR3.out.hb, by rw [HM.out]; exact Own.pop HR3.out.ow, HR3.out.ux, HR3.out.ub, HR3.out.lo, HR3.out.xb⟩, HJ.out.skip fun k' hk' => by rw [hat] at hk'; have := Option.some.inj hk'; subst this; exact hF⟩
     have HMS : Hid (remM S B w4 = rem S F S.ino.length) := remM_eq HR3.out.hb
     clear HR3 hat hF
     go_wp2_with fail
     go_roundw
     case rel => exact ⟨F, ys, H5.out⟩
     case measure => rw [HMS.out, HMS0.out]; simp only [lenOf]; omega
theorem f_hash (s : ByteArray) (w : World) (hs : s.size ≤ 9223372036854775000) :
  Calls Tryz.prog 148 #[.string s] w fun e w' => e = .returned (.int .i64 (hashL (rs s 0) 7)) ∧ w' = w := by
 go_enter Tryz.func148, Tryz.ntmps148
 go_wp2_with fail
 go_loopw [3, 4] (fun h i wr => ∃ (z : Int) (j : Nat), h = .int .i64 z ∧ i = .int .i64 (j : Int) ∧ 0 ≤ z ∧ z < 4294967296 ∧ j ≤ s.size ∧ Hid (wr = w ∧ hashL (rs s j) z = hashL (rs s 0) 7)) (fun _ i _ => (s.size - intOf i).toNat)
 case atStart => exact ⟨7, 0, rfl, rfl, by omega, by omega, by omega, rfl, rfl⟩
 case round =>
  obtain ⟨z, j, rfl, rfl, hz, hz2, hj, HJ⟩ := hrel
  obtain ⟨hw, hh⟩ := HJ.out
  subst hw
  have HH : Hid (_) := hh
  clear hh HJ
  by_cases hlt : j < s.size
  ·
   have i1 : (j : Int) < (s.size : Int) := by omega
   have hw := one_width s j hlt
   have hst := step_le hlt
   have hsp := step_pos s j
   have hn := rs_next hlt
   have hmax := max1 (one s j).2
   go_wp2_with fail
   refine (f_rune1 s j wr hlt hs).mono ?_
   rintro e w1 ⟨rfl, rfl⟩
   have HN : Hid (hashL (rs s (j + max (one s j).2 1)) ((31 * z + (one s j).1) % 4294967296) = hashL (rs s 0) 7) := by
    have := HH.out
    rw [hn] at this
    exact this
   clear HH hn
   obtain ⟨hw1, hw2, hw3, hw4, hw5⟩ := hw
   clear hw5 hw2
   generalize (one s j).1 = r at *
   generalize (one s j).2 = k at *
   obtain ⟨m, hm⟩ : ∃ m, max k 1 = m := ⟨_, rfl⟩
   rw [hm] at hmax HN hst hsp
   clear hm
   go_wp2_with fail
   go_roundw
   case rel => exact ⟨_, j + m, by go_num, by go_num, by omega, by omega, hst, trivial, HN.out⟩
   case measure => simp [intOf]; omega
  ·
   have i1 : ¬ (j : Int) < (s.size : Int) := by omega
   have HE : Hid (z = hashL (rs s 0) 7) := by
    have := HH.out
    rw [rs_end hlt] at this
    exact this
   clear HH
   go_wp2_with fail
   go_ret
   exact ⟨ret_int HE.out, rfl⟩
theorem f_bucket (s : ByteArray) (w : World) (hs : s.size ≤ 9223372036854775000) :
  Calls Tryz.prog 123 #[.string s] w fun e w' => e = .returned (.int .i64 (hashL (rs s 0) 7 % 8)) ∧ w' = w := by
 have hr := hashL_range (rs s 0) 7 (by omega)
 obtain ⟨z, hz⟩ : ∃ z, hashL (rs s 0) 7 = z := ⟨_, rfl⟩
 rw [hz] at hr ⊢
 obtain ⟨h1, h2⟩ := hr
 have HZ : Hid (_) := hz
 clear hz
 go_enter Tryz.func123, Tryz.ntmps123
 go_wp2_with fail
 refine (f_hash s w hs).mono ?_
 rintro e w1 ⟨rfl, rfl⟩
 rw [HZ.out]
 go_wp2_with fail
 go_ret
 exact ⟨rfl, rfl⟩
end Go.Proofs.YtffncojcnbhblaaGreatDoor
