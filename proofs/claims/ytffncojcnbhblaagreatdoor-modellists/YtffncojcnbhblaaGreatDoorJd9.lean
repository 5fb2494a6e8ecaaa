/-
  Joined of my texts Mc Md.
-/
import Derived.Test.YtffncojcnbhblaaGreatDoorJd8
set_option linter.unusedVariables false
set_option linter.unusedSimpArgs false
set_option maxRecDepth 100000
set_option maxHeartbeats 8000000
namespace Go.Proofs.YtffncojcnbhblaaGreatDoor
open Go.RowKit
def inoB (L : List Ino) (x : Ino) : Bool := if x.dir then x.data.toList.isEmpty && entsB L x.ents else x.ents.isEmpty && decide (x.data.size ≤ 256)
def inosB (L : List Ino) : Bool := L.all (inoB L)
def desB (S : Sta) (d : Ds) : Bool := decide (0 ≤ d.1) && decide (d.1 < S.made.length) && decide (0 ≤ d.2.1) && decide (d.2.1 < 4) && match atR S.ino d.2.2 with
 | none => false
 | some k => !((S.ino[k]?.map Ino.dir).getD true)
def opensB (S : Sta) : Bool := adj ltD S.opn && S.opn.all (desB S)
theorem all_no {α : Type} {L : List α} {f : α → Bool} {n : Nat} (hn : n < L.length) (h : f L[n] = false) : false = L.all f := by
 symm
 rw [← Bool.not_eq_true, List.all_eq_true]
 intro e
 rw [e _ (List.getElem_mem hn)] at h
 cases h
theorem all_yes {α : Type} {L : List α} {f : α → Bool} (h : ∀ j (hj : j < L.length), f L[j] = true) : true = L.all f := by
 symm
 rw [List.all_eq_true]
 intro x hx
 obtain ⟨j, hj, rfl⟩ := List.getElem_of_mem hx
 exact h j hj
theorem isEmpty_len {α : Type} (L : List α) : L.isEmpty = decide (L.length = 0) := by cases L <;> simp
theorem p_inos {w : World} {p : Pl} {S : Sta} (h : Sv w p S) (hT : Tab w) (hd : ∀ x ∈ S.ino, x.data.size ≤ 9223372036854775807) :
  Calls Tryz.prog 33 #[sval p S] w fun e w' => e = .returned (.bool (inosB S.ino)) ∧ Kept [] w w' := by
 have HN : Hid (_) := h.n4
 have HD : Hid (_) := hd
 obtain ⟨W0, X, HW, HB⟩ := boxS h
 have HT : Hid (Tab W0) := hT.kept HB.out.k
 have hn1 := h.n1
 unfold lim at hn1
 have x0 := HB.out.x0
 clear h hT hd
 go_enter Tryz.func33, Tryz.ntmps33
 go_upto_region 1 with fail
 rw [HW.out.1, HW.out.2]
 clear HW
 go_wp2_with fail
 clear x0
 go_loopw [8] (fun i wr => ∃ n : Nat, i = .int .i64 (n : Int) ∧ n ≤ S.ino.length ∧ Hid (Kept [] W0 wr ∧ ∀ j (hj : j < S.ino.length), j < n → inoB S.ino (S.ino[j]) = true)) (fun i _ => (S.ino.length - intOf i).toNat)
 case atStart => exact ⟨0, rfl, by omega, Kept.refl _ _, fun j _ hj => by omega⟩
 case round =>
  obtain ⟨n, rfl, hn, HJ⟩ := hrel
  by_cases hlt : n < S.ino.length
  ·
   have j0 : (0 : Int) ≤ (n : Int) := by omega
   have j1 : (n : Int) < (S.ino.length : Int) := by omega
   have HB1 : Hid (_) := HB.out.kept HJ.out.1
   obtain ⟨b, o, ae, ce, ha, q0, q1, q2, q3, q4, q5⟩ := HB1.out.sv.ino n hlt
   have HA : Hid (_) := ha
   rw [ha]
   have HNo : Hid (inoB S.ino (S.ino[n]) = false → false = inosB S.ino) := fun hc => all_no hlt hc
   have HYes : Hid (inoB S.ino (S.ino[n]) = true → ∀ j (hj : j < S.ino.length), j < n + 1 → inoB S.ino (S.ino[j]) = true) := fun hc j hj hjn => by
    by_cases e : j = n
    · subst e; exact hc
    · exact HJ.out.2 j hj (by omega)
   have HEq : Hid (inoB S.ino (S.ino[n]) = if (S.ino[n]).dir then (S.ino[n]).data.toList.isEmpty && entsB S.ino (S.ino[n]).ents else (S.ino[n]).ents.isEmpty && decide ((S.ino[n]).data.size ≤ 256)) := rfl
   have hel : (S.ino[n]).ents.length ≤ lim := HN.out _ (List.getElem_mem hlt)
   have hds : (S.ino[n]).data.size ≤ 9223372036854775807 := HD.out _ (List.getElem_mem hlt)
   obtain ⟨E, hE⟩ : ∃ E, (S.ino[n]).ents = E := ⟨_, rfl⟩
   obtain ⟨da, hda⟩ : ∃ da, (S.ino[n]).data = da := ⟨_, rfl⟩
   obtain ⟨d, hdd⟩ : ∃ d, (S.ino[n]).dir = d := ⟨_, rfl⟩
   rw [hE] at q2 q4 q5 hel HEq
   rw [hda] at q3 hds HEq
   rw [hdd] at q1 HEq
   generalize (S.ino[n]).num = z at q0
   have HEn : Hid (EntA wr ae E ∧ E.length ≤ lim) := ⟨q4, hel⟩
   unfold lim at hel
   clear hE hda hdd ha q4 q5
   obtain ⟨W2, Y, HWY, HK2, c0, c1, c2, c3⟩ := box4 wr (.int .i64 z) (.bool d) (.slice ae E.length ce) (.string da) 62
   have HB2 : Hid (_) := HB1.out.kept HK2.out
   have HKW : Hid (Kept [] W0 W2) := HJ.out.1.trans HK2.out (by simp)
   have HEn2 : Hid (EntA W2 ae E ∧ E.length ≤ lim) := ⟨HEn.out.1.kept HK2.out, HEn.out.2⟩
   go_upto_region 4 with fail
   rw [HWY.out.1, HWY.out.2]
   have x0 := HB2.out.x0
   have x1 := HB2.out.x1
   have x2 := HB2.out.x2
   clear HWY q0 q1 q2 q3 HK2 HEn HB1 HJ
   cases d
   ·
    have HE2 : Hid (inoB S.ino (S.ino[n]) = (E.isEmpty && decide (da.size ≤ 256))) := HEq.out
    clear HEq
    by_cases h1 : 0 < E.length
    ·
     have r1 : (0 : Int) < (E.length : Int) := by omega
     have HR : Hid (_) := HNo.out (by rw [HE2.out, isEmpty_len, decide_eq_false (by omega)]; rfl)
     clear HNo HYes HE2
     go_wp2_with fail
     go_ret
     exact ⟨ret_bool HR.out, HB2.out.k⟩
    ·
     have r1 : ¬ (0 : Int) < (E.length : Int) := by omega
     by_cases h2 : 256 < da.size
     ·
      have r2 : (256 : Int) < (da.size : Int) := by omega
      have HR : Hid (_) := HNo.out (by rw [HE2.out, decide_eq_false (p := da.size ≤ 256) (by omega)]; simp)
      clear HNo HYes HE2
      go_wp2_with fail
      go_ret
      exact ⟨ret_bool HR.out, HB2.out.k⟩
     ·
      have r2 : ¬ (256 : Int) < (da.size : Int) := by omega
      have HR : Hid (_) := HYes.out (by rw [HE2.out, isEmpty_len, decide_eq_true (p := E.length = 0) (by omega), decide_eq_true (p := da.size ≤ 256) (by omega)]; rfl)
      clear HNo HYes HE2
      go_wp2_with fail
      go_roundw
      case rel => exact ⟨n + 1, by go_num, by omega, HKW.out, HR.out⟩
      case measure => simp [intOf]; omega
   ·
    have HE2 : Hid (inoB S.ino (S.ino[n]) = (da.toList.isEmpty && entsB S.ino E)) := HEq.out
    clear HEq
    by_cases h1 : da.toList = []
    ·
     have r1 : da.toList.isEmpty = true := by rw [h1]; rfl
     rw [r1] at HE2
     go_wp2_with fail
     refine (p_ents HB2.out.sv (HT.out.kept HKW.out) HEn2.out.1 HEn2.out.2 ce).mono ?_
     rintro e w3 ⟨rfl, k3⟩
     have HK3 : Hid (Kept [] W0 w3) := HKW.out.trans k3 (by simp)
     have HK03 : Hid (Kept [] w w3) := HB2.out.k.trans k3 (by simp)
     have d1 := k3.cell c1 (by simp)
     clear k3 c0 c1 c2 c3 x0 x1 x2
     rcases hr : entsB S.ino E with _ | _
     ·
      have HR : Hid (_) := HNo.out (by rw [HE2.out, hr]; rfl)
      clear HNo HYes HE2 hr
      go_wp2_with fail
      go_ret
      exact ⟨ret_bool HR.out, HK03.out⟩
     ·
      have HR : Hid (_) := HYes.out (by rw [HE2.out, hr]; rfl)
      clear HNo HYes HE2 hr
      go_wp2_with fail
      go_roundw
      case rel => exact ⟨n + 1, by go_num, by omega, HK3.out, HR.out⟩
      case measure => simp [intOf]; omega
    ·
     have r1 : da.toList.isEmpty = false := by rw [← Bool.not_eq_true, List.isEmpty_iff]; exact h1
     rw [r1] at HE2
     have HR : Hid (_) := HNo.out (by rw [HE2.out]; rfl)
     clear HNo HYes HE2
     go_wp2_with fail
     go_ret
     exact ⟨ret_bool HR.out, HB2.out.k⟩
  ·
   have j1 : ¬ (n : Int) < (S.ino.length : Int) := by omega
   have HR : Hid (true = inosB S.ino) := all_yes fun j hj => HJ.out.2 j hj (by omega)
   have HK : Hid (Kept [] w _) := HB.out.k.trans HJ.out.1 (by simp)
   clear HJ
   go_wp2_with fail
   go_ret
   exact ⟨ret_bool HR.out, HK.out⟩
theorem p_opens {w : World} {p : Pl} {S : Sta} (h : Sv w p S) :
  Calls Tryz.prog 34 #[sval p S] w fun e w' => e = .returned (.bool (opensB S)) ∧ Kept [] w w' := by
 have HN : Hid (S.opn.length ≤ lim) := h.n2
 obtain ⟨W0, X, HW, HB⟩ := boxS h
 have hn2 := h.n2
 have hn3 := h.n3
 unfold lim at hn2 hn3
 have x1 := HB.out.x1
 clear h
 go_enter Tryz.func34, Tryz.ntmps34
 go_upto_region 1 with fail
 rw [HW.out.1, HW.out.2]
 clear HW
 go_wp2_with fail
 refine (row_des HB.out.sv.des HN.out p.c2).mono ?_
 rintro e w1 ⟨rfl, k1⟩
 have HB1 : Hid (_) := HB.out.kept k1
 have y1 := k1.cell x1 (by simp)
 clear k1 x1 HB
 rcases hadj : adj ltD S.opn with _ | _
 ·
  have HR : Hid (false = opensB S) := by show _ = _; unfold opensB; rw [hadj]; rfl
  clear hadj
  go_wp2_with fail
  go_ret
  exact ⟨ret_bool HR.out, HB1.out.k⟩
 have HO : Hid (opensB S = S.opn.all (desB S)) := by show _ = _; unfold opensB; rw [hadj]; rfl
 clear hadj
 go_wp2_with fail
 clear y1
 go_loopw [13] (fun i wr => ∃ n : Nat, i = .int .i64 (n : Int) ∧ n ≤ S.opn.length ∧ Hid (Kept [] w1 wr ∧ ∀ j (hj : j < S.opn.length), j < n → desB S (S.opn[j]) = true)) (fun i _ => (S.opn.length - intOf i).toNat)
 case atStart => exact ⟨0, rfl, by omega, Kept.refl _ _, fun j _ hj => by omega⟩
 case round =>
  obtain ⟨n, rfl, hn, HJ⟩ := hrel
  by_cases hlt : n < S.opn.length
  ·
   have j0 : (0 : Int) ≤ (n : Int) := by omega
   have j1 : (n : Int) < (S.opn.length : Int) := by omega
   have HB2 : Hid (_) := HB1.out.kept HJ.out.1
   obtain ⟨b, o, ha, q0, q1, q2⟩ := HB2.out.sv.des n hlt
   have HA : Hid (_) := ha
   rw [ha]
   have HNo : Hid (desB S (S.opn[n]) = false → false = opensB S) := fun hc => by rw [HO.out]; exact all_no hlt hc
   have HYes : Hid (desB S (S.opn[n]) = true → ∀ j (hj : j < S.opn.length), j < n + 1 → desB S (S.opn[j]) = true) := fun hc j hj hjn => by
    by_cases e : j = n
    · subst e; exact hc
    · exact HJ.out.2 j hj (by omega)
   obtain ⟨x, hx⟩ : ∃ x, S.opn[n] = x := ⟨_, rfl⟩
   rw [hx] at q0 q1 q2 HNo HYes
   obtain ⟨cr, fd, z⟩ := x
   have HEq : Hid (desB S (cr, fd, z) = (decide (0 ≤ cr) && decide (cr < S.made.length) && decide (0 ≤ fd) && decide (fd < 4) && match atR S.ino z with
    | none => false
    | some k => !((S.ino[k]?.map Ino.dir).getD true))) := rfl
   simp only at q0 q1 q2
   clear hx ha
   obtain ⟨W2, Y, HWY, HK2, c0, c1, c2⟩ := box3 wr (.int .i64 cr) (.int .i64 fd) (.int .i64 z) 83
   have HB3 : Hid (_) := HB2.out.kept HK2.out
   have HKW : Hid (Kept [] w1 W2) := HJ.out.1.trans HK2.out (by simp)
   go_upto_region 6 with fail
   rw [HWY.out.1, HWY.out.2]
   have x0 := HB3.out.x0
   have x1 := HB3.out.x1
   have x2 := HB3.out.x2
   clear HWY q0 q1 q2 HK2 HB2 HJ
   by_cases h1 : cr < 0
   ·
    have HR : Hid (_) := HNo.out (by rw [HEq.out, decide_eq_false (p := 0 ≤ cr) (by omega)]; rfl)
    clear HNo HYes HEq
    go_wp2_with fail
    go_ret
    exact ⟨ret_bool HR.out, HB3.out.k⟩
   by_cases h2 : (S.made.length : Int) ≤ cr
   ·
    have HR : Hid (_) := HNo.out (by rw [HEq.out, decide_eq_false (p := cr < S.made.length) (by omega)]; simp)
    clear HNo HYes HEq
    go_wp2_with fail
    go_ret
    exact ⟨ret_bool HR.out, HB3.out.k⟩
   by_cases h3 : fd < 0
   ·
    have HR : Hid (_) := HNo.out (by rw [HEq.out, decide_eq_false (p := 0 ≤ fd) (by omega)]; simp)
    clear HNo HYes HEq
    go_wp2_with fail
    go_ret
    exact ⟨ret_bool HR.out, HB3.out.k⟩
   by_cases h4 : 4 ≤ fd
   ·
    have HR : Hid (_) := HNo.out (by rw [HEq.out, decide_eq_false (p := fd < 4) (by omega)]; simp)
    clear HNo HYes HEq
    go_wp2_with fail
    go_ret
    exact ⟨ret_bool HR.out, HB3.out.k⟩
   have HE2 : Hid (desB S (cr, fd, z) = match atR S.ino z with
    | none => false
    | some k => !((S.ino[k]?.map Ino.dir).getD true)) := by
    show _ = _
    rw [HEq.out, decide_eq_true (p := 0 ≤ cr) (by omega), decide_eq_true (p := cr < S.made.length) (by omega), decide_eq_true (p := 0 ≤ fd) (by omega), decide_eq_true (p := fd < 4) (by omega)]
    rfl
   clear HEq
   rcases hat : atR S.ino z with _ | k
   ·
    have HR : Hid (_) := HNo.out (by rw [HE2.out, hat])
    have HAt : Hid (_) := hat
    clear HNo HYes HE2 hat
    go_wp2_with fail
    refine (p_inode_none HB3.out.sv z HAt.out).mono ?_
    rintro e w6 ⟨rfl, k6⟩
    have HK6 : Hid (Kept [] w w6) := HB3.out.k.trans k6 (by simp)
    clear k6
    go_wp2_with fail
    go_ret
    exact ⟨ret_bool HR.out, HK6.out⟩
   ·
    obtain ⟨hk, -⟩ := at_get hat
    have HE3 : Hid (desB S (cr, fd, z) = !(S.ino[k]).dir) := by show _ = _; rw [HE2.out, hat]; simp [hk]
    obtain ⟨b8, o8, ae8, ce8, ha8, -, t1, -⟩ := HB3.out.sv.ino k hk
    have HAt : Hid (atR S.ino z = some k ∧ p.a1 = some ⟨b8, o8, none⟩) := ⟨hat, ha8⟩
    obtain ⟨d, hdd⟩ : ∃ d, (S.ino[k]).dir = d := ⟨_, rfl⟩
    rw [hdd] at t1 HE3
    clear HE2 hat ha8 hdd
    go_wp2_with fail
    refine (p_inode_some HB3.out.sv z HAt.out.1 HAt.out.2).mono ?_
    rintro e w6 ⟨rfl, k6⟩
    have t2 := k6.cell t1 (by simp)
    have HK6 : Hid (Kept [] w1 w6) := HKW.out.trans k6 (by simp)
    have HK06 : Hid (Kept [] w w6) := HB3.out.k.trans k6 (by simp)
    clear k6 t1 x0 x1 x2 c0 c1 c2
    cases d
    ·
     have HR : Hid (_) := HYes.out (by rw [HE3.out]; rfl)
     clear HNo HYes HE3
     go_wp2_with fail
     go_roundw
     case rel => exact ⟨n + 1, by go_num, by omega, HK6.out, HR.out⟩
     case measure => simp [intOf]; omega
    ·
     have HR : Hid (_) := HNo.out (by rw [HE3.out]; rfl)
     clear HNo HYes HE3
     go_wp2_with fail
     go_ret
     exact ⟨ret_bool HR.out, HK06.out⟩
  ·
   have j1 : ¬ (n : Int) < (S.opn.length : Int) := by omega
   have HR : Hid (true = opensB S) := by show _ = _; rw [HO.out]; exact all_yes fun j hj => HJ.out.2 j hj (by omega)
   have HK : Hid (Kept [] w _) := HB1.out.k.trans HJ.out.1 (by simp)
   clear HJ
   go_wp2_with fail
   go_ret
   exact ⟨ret_bool HR.out, HK.out⟩
theorem of_alloc {P : Program} {c : Code} {Q : Exit → Act → World → Prop} {a : Act} {w : World} {o : Obj} (h : ∀ W, W = w.alloc o → Code.wp P c Q a W) : Code.wp P c Q a (w.alloc o) := h _ rfl
def entN (L : List Ino) (z : Int) : Nat := (L.map fun x => cnt x.ents z).sum
def helB (S : Sta) (x : Ino) : Bool := if x.dir then entN S.ino x.num == 1 else entN S.ino x.num != 0 || (opP S.opn x.num).isSome
def heldB (S : Sta) : Bool := S.ino.tail.all (helB S)
theorem zero258 (w : World) : (zeroValue 98).run Tryz.prog w = .ok (.agg (rowF 258 fun _ => .int .i64 0)) w := by kernel_rfl
structure Rng (S : Sta) : Prop where
 ino : ∀ x ∈ S.ino, 1 ≤ x.num ∧ x.num ≤ 257
 ent : ∀ x ∈ S.ino, ∀ e ∈ x.ents, 1 ≤ e.2 ∧ e.2 ≤ 257
 few : S.ino.length ≤ 257
 pos : 0 < S.ino.length
theorem entN_take {L : List Ino} {z : Int} {n : Nat} (h : n < L.length) : entN (L.take (n + 1)) z = entN (L.take n) z + cnt (L[n]).ents z := by
 unfold entN
 rw [List.take_succ_eq_append_getElem h, List.map_append, List.sum_append]
 simp
theorem entN_le {L : List Ino} {z : Int} (hl : ∀ x ∈ L, x.ents.length ≤ lim) : entN L z ≤ L.length * lim := by
 unfold entN
 induction L with
 | nil => simp
 | cons x L ih =>
  have h1 := ih fun y hy => hl y (List.mem_cons_of_mem _ hy)
  have h2 := hl x (List.mem_cons_self ..)
  have h3 := cnt_le x.ents z
  simp only [List.map_cons, List.sum_cons, List.length_cons]
  rw [Nat.add_mul]
  omega
theorem entN_big {L : List Ino} {z : Int} (hs : L.length ≤ 60000) (hl : ∀ x ∈ L, x.ents.length ≤ lim) : entN L z ≤ 8444249301319680000 := by
 have e : 60000 * lim = 8444249301319680000 := by simp [lim]
 rw [← e]
 exact Nat.le_trans (entN_le hl) (Nat.mul_le_mul_right lim hs)
theorem held_iff {S : Sta} : heldB S = true ↔ ∀ j (hj : j + 1 < S.ino.length), helB S (S.ino[j + 1]) = true := by
 unfold heldB
 rw [List.all_eq_true]
 constructor
 ·
  intro h j hj
  refine h _ ?_
  have hj2 : j < S.ino.tail.length := by rw [List.length_tail]; omega
  have : S.ino.tail[j] = S.ino[j + 1] := by simp
  rw [← this]
  exact List.getElem_mem hj2
 ·
  intro h x hx
  obtain ⟨j, hj, rfl⟩ := List.getElem_of_mem hx
  rw [List.length_tail] at hj
  have := h j (by omega)
  simpa using this
def cntT (L : List Ino) (n : Nat) (E : List En) : Nat → Value := fun z => .int .i64 ((entN (L.take n) (z : Int) + cnt E (z : Int) : Nat) : Int)
theorem cntT_next {L : List Ino} {n : Nat} {E : List En} {k m : Nat} (h : k < E.length) (hm : (E[k]).2 = (m : Int)) : updV (cntT L n (E.take k)) m (.int .i64 ((entN (L.take n) (m : Int) + cnt (E.take k) (m : Int) + 1 : Nat) : Int)) = cntT L n (E.take (k + 1)) := by
 funext j
 unfold updV cntT
 rw [cnt_take h]
 by_cases e : j = m
 · subst e; rw [if_pos rfl, if_pos hm]; rfl
 · rw [if_neg e, if_neg (by rw [hm]; omega)]; rfl
theorem cntT_all {L : List Ino} {n : Nat} (h : n < L.length) : cntT L n (L[n]).ents = cntT L (n + 1) [] := by
 funext j
 unfold cntT
 rw [entN_take h]
 rfl
structure Cm (w0 w : World) (B : Nat) (F : Nat → Value) : Prop where
 k : Kept [] w0 w
 here : w.heap[B]? = some (.cells (rowF 258 F) 98 (0, 0))
 lo : w0.heap.size ≤ B
theorem Cm.kept {w0 w w' : World} {B : Nat} {F : Nat → Value} (h : Cm w0 w B F) (k : Kept [] w w') : Cm w0 w' B F :=
 ⟨h.k.trans k (by simp), (k.block B (lt_of_heap h.here) (by simp)).trans h.here, h.lo⟩
theorem Cm.put {w0 w : World} {B : Nat} {F : Nat → Value} (h : Cm w0 w B F) (i : Nat) (v : Value) : Cm w0 (w.setCell ⟨B, i, none⟩ v) B (updV F i v) :=
 ⟨h.k.setCell (Or.inr h.lo) _, by rw [← rowF_set]; exact block_set h.here i v, h.lo⟩
theorem Cm.cell {w0 w : World} {B : Nat} {F : Nat → Value} (h : Cm w0 w B F) {i : Nat} (hi : i < 258) : w.cell? ⟨B, i, none⟩ = some (F i) := by
 rw [cellB h.here]; exact rowF_get F hi
theorem cellO {w : World} {B Y i j : Nat} {v : Value} (h : Y ≠ B) : (w.setCell ⟨B, i, none⟩ v).cell? ⟨Y, j, none⟩ = w.cell? ⟨Y, j, none⟩ :=
 World.cell?_of_block (a := ⟨Y, j, none⟩) (block_other h)
theorem p_held {w : World} {p : Pl} {S : Sta} (h : Sv w p S) (hg : Rng S) :
  Calls Tryz.prog 35 #[sval p S] w fun e w' => e = .returned (.bool (heldB S)) ∧ Kept [] w w' := by
 have HN : Hid (_) := h.n4
 have HG : Hid (Rng S) := hg
 obtain ⟨W0, X, HW, HB⟩ := boxS h
 have hn1 : S.ino.length ≤ 257 := hg.few
 have hpos : 0 < S.ino.length := hg.pos
 have i4 : S.ino.length ≤ p.c1 := h.k1
 clear h hg
 obtain ⟨b, o, ae0, ce0, ha, -⟩ := HB.out.sv.ino 0 hpos
 have HA : Hid (p.a1 = some ⟨b, o, none⟩) := ha
 clear ha
 have hz0 := zero258
 go_enter Tryz.func35, Tryz.ntmps35
 go_upto_region 1 with fail
 rw [HW.out.1, HW.out.2]
 clear HW
 go_upto_region 2 with fail
 refine of_alloc fun W1 hW1 => ?_
 obtain ⟨B, hB⟩ : ∃ B, W0.heap.size = B := ⟨_, rfl⟩
 have HC1 : Hid (Cm W0 W1 B (cntT S.ino 0 [])) := by
  rw [hW1, ← hB]
  exact ⟨(Kept.refl [] W0).alloc _, Go.heap_alloc_new W0 _, Nat.le_refl _⟩
 rw [hB]
 have x0 := (HB.out.kept HC1.out.k).x0
 rw [HA.out] at x0
 clear hW1 hB hz0
 go_wp2_with fail
 clear x0
 go_loopw [13] (fun i wr => ∃ n : Nat, i = .int .i64 (n : Int) ∧ n ≤ S.ino.length ∧ Hid (Cm W0 wr B (cntT S.ino n []))) (fun i _ => (S.ino.length - intOf i).toNat)
 case atStart => exact ⟨0, rfl, by omega, HC1.out⟩
 case round =>
  obtain ⟨n, rfl, hn, HJ⟩ := hrel
  by_cases hlt : n < S.ino.length
  ·
   have j0 : (0 : Int) ≤ (n : Int) := by omega
   have j1 : (n : Int) < (S.ino.length : Int) := by omega
   obtain ⟨b', o', ae, ce, ha', q0, q1, q2, q3, q4, q5⟩ := (HB.out.kept HJ.out.k).sv.ino n hlt
   rw [HA.out] at ha'
   simp only [Option.some.injEq, Addr.mk.injEq, and_true] at ha'
   obtain ⟨hb1, hb2⟩ := ha'
   subst hb1 hb2
   have hlim : (S.ino[n]).ents.length ≤ lim := HN.out _ (List.getElem_mem hlt)
   have HRg : Hid (∀ e ∈ (S.ino[n]).ents, 1 ≤ e.2 ∧ e.2 ≤ 257) := HG.out.ent _ (List.getElem_mem hlt)
   have HAll : Hid (_) := cntT_all hlt
   have HBig : Hid (∀ z k, entN (S.ino.take n) z + cnt ((S.ino[n]).ents.take k) z ≤ 8444249301319680000) := fun z k => by
    have h1 := entN_big (L := S.ino.take (n + 1)) (z := z) (by rw [List.length_take]; omega) fun x hx => HN.out x (List.mem_of_mem_take hx)
    rw [entN_take hlt] at h1
    have h2 : cnt ((S.ino[n]).ents.take k) z ≤ cnt (S.ino[n]).ents z := (List.take_sublist k _).countP_le
    omega
   obtain ⟨E, hE⟩ : ∃ E, (S.ino[n]).ents = E := ⟨_, rfl⟩
   rw [hE] at q2 q4 q5 hlim HRg HAll HBig
   generalize (S.ino[n]).num = z0 at q0
   generalize (S.ino[n]).dir = d0 at q1
   generalize (S.ino[n]).data = s0 at q3
   have HEn : Hid (EntA _ ae E) := q4
   unfold lim at hlim
   clear hE q4 q5
   obtain ⟨W2, Y, HWY, HK2, c0, c1, c2, c3⟩ := box4 wr (.int .i64 z0) (.bool d0) (.slice ae E.length ce) (.string s0) 62
   have HC2 : Hid (Cm W0 W2 B (cntT S.ino n (E.take 0))) := HJ.out.kept HK2.out
   have HEn2 : Hid (EntA W2 ae E) := HEn.out.kept HK2.out
   go_upto_region 5 with fail
   rw [HWY.out.1, HWY.out.2]
   clear HWY q0 q1 q2 q3 HJ HEn HK2
   have HLt : Hid (∀ i (hi : i < E.length), (∃ b o, ae = some ⟨b, o, none⟩ ∧ b < W2.heap.size)) := fun i hi => by
    obtain ⟨b, o, e1, e2, -⟩ := HEn2.out i hi
    exact ⟨b, o, e1, block_lt_of_cell e2⟩
   go_wp2_with fail
   clear c0 c1 c2 c3
   go_loopw [20] (fun i wr2 => ∃ k : Nat, i = .int .i64 (k : Int) ∧ k ≤ E.length ∧ Hid (Cm W0 wr2 B (cntT S.ino n (E.take k)) ∧ EntA wr2 ae E)) (fun i _ => (E.length - intOf i).toNat)
   case atStart => exact ⟨0, rfl, by omega, HC2.out, HEn2.out⟩
   case round =>
    obtain ⟨k, rfl, hk, HJ⟩ := hrel
    by_cases hlk : k < E.length
    ·
     have l0 : (0 : Int) ≤ (k : Int) := by omega
     have l1 : (k : Int) < (E.length : Int) := by omega
     obtain ⟨b5, o5, hb5, g1, g2⟩ := HJ.out.2 k hlk
     have HA5 : Hid (_) := hb5
     obtain ⟨hz1, hz2⟩ := HRg.out _ (List.getElem_mem hlk)
     obtain ⟨m, hm⟩ : ∃ m : Nat, (E[k]).2 = (m : Int) := ⟨(E[k]).2.toNat, by omega⟩
     have HNx : Hid (_) := cntT_next (L := S.ino) (n := n) hlk hm
     have hbg := HBig.out (m : Int) k
     obtain ⟨q, hq⟩ : ∃ q, entN (S.ino.take n) (m : Int) + cnt (E.take k) (m : Int) = q := ⟨_, rfl⟩
     have HQ : Hid (_) := hq
     rw [hq] at hbg HNx
     rw [hm] at g2 hz1 hz2
     generalize (E[k]).1 = t at g1
     have m0 : (0 : Int) ≤ (m : Int) := by omega
     have m1 : (m : Int) < 258 := by omega
     have m2 : m < 258 := by omega
     rw [hb5]
     obtain ⟨W3, Z, HWZ, HK3, e0, e1⟩ := box2 ‹_› (.string t) (.int .i64 (m : Int)) 64
     have HC3 : Hid (_) := HJ.out.1.kept HK3.out
     have HEn3 : Hid (EntA W3 ae E) := HJ.out.2.kept HK3.out
     have e2 : W3.cell? ⟨B, m, none⟩ = some (.int .i64 (q : Int)) := by rw [HC3.out.cell m2]; unfold cntT; rw [HQ.out]
     have e3 := frozen_of HC3.out.here m
     obtain ⟨W4, hW4⟩ : ∃ W4, W3.setCell ⟨B, m, none⟩ (.int .i64 ((q : Int) + 1)) = W4 := ⟨_, rfl⟩
     have HC4 : Hid (Cm W0 W4 B (cntT S.ino n (E.take (k + 1)))) := by
      rw [← hW4, ← HNx.out]
      exact HC3.out.put m _
     have HBl : Hid (∀ b o, ae = some ⟨b, o, none⟩ → b ≠ B) := fun b o hao e => by
      obtain ⟨b6, o6, h61, h62, h63⟩ := HEn3.out k hlk
      rw [hao] at h61
      simp only [Option.some.injEq, Addr.mk.injEq, and_true] at h61
      obtain ⟨e4, e5⟩ := h61
      rw [← e4, e] at h62
      have := cellB (i := o6 + k * 2) HC3.out.here
      rw [h62] at this
      unfold rowF at this
      simp only [List.getElem?_toArray, List.getElem?_map] at this
      rcases h7 : (List.range 258)[o6 + k * 2]? with _ | x
      · rw [h7] at this; cases this
      ·
       rw [h7] at this
       unfold cntT at this
       cases this
     have HEn4 : Hid (EntA W4 ae E) := fun i hi => by
      obtain ⟨b6, o6, h61, h62, h63⟩ := HEn3.out i hi
      have hne := HBl.out b6 o6 h61
      refine ⟨b6, o6, h61, ?_, ?_⟩
      · rw [← hW4, cellO hne]; exact h62
      · rw [← hW4, cellO hne]; exact h63
     have HW4 : Hid (_) := hW4
     clear hW4 hq hm hb5
     go_upto_region 8 with fail
     rw [HWZ.out.1, HWZ.out.2]
     clear HWZ g1 g2 HJ HK3
     go_upto_region 9 with fail
     rw [HW4.out]
     clear HW4 e0 e1 e2 e3
     go_wp2_with fail
     go_roundw
     case rel => exact ⟨k + 1, by go_num, by omega, HC4.out, by have := HEn4.out; rw [HA5.out] at this; exact this⟩
     case measure => simp [intOf]; omega
    ·
     have l1 : ¬ (k : Int) < (E.length : Int) := by omega
     have HC5 : Hid (Cm W0 wr B (cntT S.ino (n + 1) [])) := by
      have := HJ.out.1
      rw [List.take_of_length_le (by omega), HAll.out] at this
      exact this
     clear HJ
     go_wp2_with fail
     go_roundw
     case rel => exact ⟨n + 1, by go_num, by omega, HC5.out⟩
     case measure => simp [intOf]; omega
  ·
   have j1 : ¬ (n : Int) < (S.ino.length : Int) := by omega
   have HF : Hid (Cm W0 wr B fun z => .int .i64 ((entN S.ino (z : Int) : Nat) : Int)) := by
    have := HJ.out
    unfold cntT at this
    rw [List.take_of_length_le (by omega)] at this
    show Cm W0 wr B _
    simpa [cnt] using this
   have HB2 : Hid (_) := HB.out.kept HF.out.k
   have x0 := HB2.out.x0
   rw [HA.out] at x0
   have i3 : (1 : Int) ≤ (S.ino.length : Int) := by omega
   clear HJ
   by_cases hc1 : p.c1 = 1
   ·
    have HR : Hid (true = heldB S) := (held_iff.2 fun j hj => by omega).symm
    have k0 : ¬ (0 : Int) < ((S.ino.length - 1 : Nat) : Int) := by omega
    go_wp2_with fail
    clear x0
    go_loopw [36] (fun i wr2 => i = .int .i64 0 ∧ wr2 = wr) (fun _ _ => 0)
    case atStart => exact ⟨rfl, rfl⟩
    case round =>
     obtain ⟨rfl, hw⟩ := hrel
     have hw2 := hw.symm
     subst hw2
     clear hw
     go_wp2_with fail
     go_ret
     exact ⟨ret_bool HR.out, HB2.out.k⟩
   ·
    go_wp2_with fail
    clear x0
    go_loopw [36] (fun i wr2 => ∃ n : Nat, i = .int .i64 (n : Int) ∧ n ≤ S.ino.length - 1 ∧ Hid (Cm W0 wr2 B (fun z => .int .i64 ((entN S.ino (z : Int) : Nat) : Int)) ∧ ∀ j (hj : j + 1 < S.ino.length), j < n → helB S (S.ino[j + 1]) = true)) (fun i _ => ((S.ino.length - 1 : Nat) - intOf i).toNat)
    case atStart => exact ⟨0, rfl, by omega, HF.out, fun j _ hj => by omega⟩
    case round =>
     obtain ⟨n2, rfl, hn2, HJ⟩ := hrel
     by_cases hlt2 : n2 < S.ino.length - 1
     ·
      have l0 : (0 : Int) ≤ (n2 : Int) := by omega
      have l1 : (n2 : Int) < ((S.ino.length - 1 : Nat) : Int) := by omega
      have HB3 : Hid (_) := HB.out.kept HJ.out.1.k
      obtain ⟨b', o', ae', ce', ha', q0, q1, q2, q3, -⟩ := HB3.out.sv.ino (n2 + 1) (by omega)
      rw [HA.out] at ha'
      simp only [Option.some.injEq, Addr.mk.injEq, and_true] at ha'
      obtain ⟨hb1, hb2⟩ := ha'
      subst hb1 hb2
      have eo : o + (n2 + 1) * 4 = o + 4 + n2 * 4 := by omega
      rw [eo] at q0 q1 q2 q3
      clear eo
      obtain ⟨hz1, hz2⟩ := HG.out.ino (S.ino[n2 + 1]) (List.getElem_mem _)
      have HNo : Hid (helB S (S.ino[n2 + 1]) = false → false = heldB S) := fun hc => by
       symm
       rw [← Bool.not_eq_true, held_iff]
       intro e
       rw [e n2 (by omega)] at hc
       cases hc
      have HYes : Hid (helB S (S.ino[n2 + 1]) = true → ∀ j (hj : j + 1 < S.ino.length), j < n2 + 1 → helB S (S.ino[j + 1]) = true) := fun hc j hj hjn => by
       by_cases e : j = n2
       · subst e; exact hc
       · exact HJ.out.2 j hj (by omega)
      have HEq : Hid (helB S (S.ino[n2 + 1]) = if (S.ino[n2 + 1]).dir then entN S.ino (S.ino[n2 + 1]).num == 1 else entN S.ino (S.ino[n2 + 1]).num != 0 || (opP S.opn (S.ino[n2 + 1]).num).isSome) := rfl
      obtain ⟨m, hm⟩ : ∃ m : Nat, (S.ino[n2 + 1]).num = (m : Int) := ⟨(S.ino[n2 + 1]).num.toNat, by omega⟩
      rw [hm] at q0 hz1 hz2 HEq
      obtain ⟨d, hd⟩ : ∃ d, (S.ino[n2 + 1]).dir = d := ⟨_, rfl⟩
      rw [hd] at q1 HEq
      generalize (S.ino[n2 + 1]).ents.length = el at q2
      generalize (S.ino[n2 + 1]).data = da at q3
      have m0 : (0 : Int) ≤ (m : Int) := by omega
      have m1 : (m : Int) < 258 := by omega
      have m2 : m < 258 := by omega
      clear hm hd
      obtain ⟨W3, Y, HWY, HK3, c0, c1, -, -⟩ := box4 ‹_› (.int .i64 (m : Int)) (.bool d) (.slice ae' el ce') (.string da) 62
      have HC3 : Hid (_) := HJ.out.1.kept HK3.out
      have HB4 : Hid (_) := HB3.out.kept HK3.out
      obtain ⟨q, hq⟩ : ∃ q, entN S.ino (m : Int) = q := ⟨_, rfl⟩
      have e2 : W3.cell? ⟨B, m, none⟩ = some (.int .i64 (q : Int)) := by rw [HC3.out.cell m2, hq]
      rw [hq] at HEq
      clear hq
      go_upto_region 14 with fail
      rw [HWY.out.1, HWY.out.2]
      clear HWY q0 q1 q2 q3 HJ HK3 HB3
      cases d
      ·
       have HE2 : Hid (helB S (S.ino[n2 + 1]) = (q != 0 || (opP S.opn (m : Int)).isSome)) := HEq.out
       clear HEq
       by_cases hq0 : q = 0
       ·
        have b1 : ((q : Int) == 0) = true := by simpa using hq0
        have HE3 : Hid (helB S (S.ino[n2 + 1]) = (opP S.opn (m : Int)).isSome) := by show _ = _; rw [HE2.out, hq0]; rfl
        have x0 := HB4.out.x0
        have x1 := HB4.out.x1
        have x2 := HB4.out.x2
        clear HE2 hq0
        go_wp2_with fail
        refine (p_isopen HB4.out.sv (m : Int)).mono ?_
        rintro e w6 ⟨rfl, k6⟩
        have HC6 : Hid (_) := HC3.out.kept k6
        have HK6 : Hid (Kept [] w w6) := HB4.out.k.trans k6 (by simp)
        clear k6 x0 x1 x2 c0 c1 e2
        rcases hop : (opP S.opn (m : Int)).isSome with _ | _
        ·
         have HR : Hid (_) := HNo.out (by rw [HE3.out, hop])
         clear HNo HYes HE3 hop
         go_wp2_with fail
         go_ret
         exact ⟨ret_bool HR.out, HK6.out⟩
        ·
         have HR : Hid (_) := HYes.out (by rw [HE3.out, hop])
         clear HNo HYes HE3 hop
         go_wp2_with fail
         go_roundw
         case rel => exact ⟨n2 + 1, by go_num, by omega, HC6.out, HR.out⟩
         case measure => simp [intOf]; omega
       ·
        have b1 : ((q : Int) == 0) = false := by simpa using hq0
        have HR : Hid (_) := HYes.out (by rw [HE2.out]; simp [hq0])
        clear HNo HYes HE2
        go_wp2_with fail
        go_roundw
        case rel => exact ⟨n2 + 1, by go_num, by omega, HC3.out, HR.out⟩
        case measure => simp [intOf]; omega
      ·
       have HE2 : Hid (helB S (S.ino[n2 + 1]) = (q == 1)) := HEq.out
       clear HEq
       by_cases hq1 : q = 1
       ·
        have b1 : ((q : Int) != 1) = false := by simp [hq1]
        have HR : Hid (_) := HYes.out (by rw [HE2.out, hq1]; rfl)
        clear HNo HYes HE2 hq1
        go_wp2_with fail
        go_roundw
        case rel => exact ⟨n2 + 1, by go_num, by omega, HC3.out, HR.out⟩
        case measure => simp [intOf]; omega
       ·
        have b1 : ((q : Int) != 1) = true := by simp; omega
        have HR : Hid (_) := HNo.out (by rw [HE2.out]; simp [hq1])
        clear HNo HYes HE2
        go_wp2_with fail
        go_ret
        exact ⟨ret_bool HR.out, HB4.out.k⟩
     ·
      have l1 : ¬ (n2 : Int) < ((S.ino.length - 1 : Nat) : Int) := by omega
      have HR : Hid (true = heldB S) := (held_iff.2 fun j hj => HJ.out.2 j hj (by omega)).symm
      have HK : Hid (Kept [] w wr) := HB.out.k.trans HJ.out.1.k (by simp)
      clear HJ
      go_wp2_with fail
      go_ret
      exact ⟨ret_bool HR.out, HK.out⟩
end Go.Proofs.YtffncojcnbhblaaGreatDoor
