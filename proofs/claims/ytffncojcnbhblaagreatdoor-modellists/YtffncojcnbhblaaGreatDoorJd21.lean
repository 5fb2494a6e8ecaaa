/-
  Joined of my texts We Fa Szr Sz Fc.
-/
import Derived.Test.YtffncojcnbhblaaGreatDoorJd20
import Derived.Test.YtffncojcnbhblaaGreatDoorJd18
import Derived.Test.YtffncojcnbhblaaGreatDoorJd3
import Derived.Test.YtffncojcnbhblaaGreatDoorTk
set_option linter.unusedVariables false
set_option linter.unusedSimpArgs false
set_option maxRecDepth 100000
set_option maxHeartbeats 8000000
namespace Go.Proofs.YtffncojcnbhblaaGreatDoor
open Go.RowKit
theorem in_sum : ∀ (E : List En), inB E 0 + inB E 1 + inB E 2 + inB E 3 + inB E 4 + inB E 5 + inB E 6 + inB E 7 = E.length
 | [] => by simp [inB]
 | e :: l => by
  have ih := in_sum l
  have hr := bkt_range e.1
  have one : ∀ b, inB (e :: l) b = inB l b + if bkt e.1 = (b : Int) then 1 else 0 := fun b => by
   unfold inB
   rw [List.countP_cons]
   by_cases h : bkt e.1 = (b : Int)
   · simp [h]
   · simp [h]
  simp only [one, List.length_cons]
  have hc : bkt e.1 = 0 ∨ bkt e.1 = 1 ∨ bkt e.1 = 2 ∨ bkt e.1 = 3 ∨ bkt e.1 = 4 ∨ bkt e.1 = 5 ∨ bkt e.1 = 6 ∨ bkt e.1 = 7 := by omega
  rcases hc with h | h | h | h | h | h | h | h <;> (rw [h]; simp; omega)
structure Wel (S : Sta) : Prop where
 clo : Clo S.ino
 tr : Tr S.ino
 ia : adj ltI S.ino = true
 ea : ∀ x ∈ S.ino, adj ltE x.ents = true
 da : adj ltD S.opn = true
 few : S.ino.length ≤ 257
 en : ∀ x ∈ S.ino, x.ents.length ≤ 32
 nm : ∀ x ∈ S.ino, ∀ e ∈ x.ents, chk e.1 = 0
 dt : ∀ x ∈ S.ino, x.data.size ≤ 256
 rg : ∀ x ∈ S.ino, 1 ≤ x.num ∧ x.num ≤ 257
 fds : ∀ d ∈ S.opn, 0 ≤ d.1 ∧ d.1 < S.made.length ∧ 0 ≤ d.2.1 ∧ d.2.1 < 4 ∧ ∃ k, ∃ hk : k < S.ino.length, atR S.ino d.2.2 = some k ∧ (S.ino[k]).dir = false
 m1 : 1 ≤ S.made.length
 m8 : S.made.length ≤ 8
 mg : ∀ g ∈ S.made, 0 ≤ g ∧ g ≤ 32
 gv : ∀ j (hj : j + 1 < S.ino.length), givenB S.made (S.ino[j + 1]).num = true
theorem wel_of {S : Sta} (h : mayB S = true) : Wel S := by
 obtain ⟨hM, hN, hI, hO, hH, hF⟩ := may_iff.1 h
 have tr := tr_of hN hI hH
 have rg := rng_of hM hN hI
 obtain ⟨m1, m8, mg⟩ := made_iff.1 hM
 obtain ⟨-, -, -, ia, gv⟩ := nums_iff.1 hN
 have hi : ∀ x ∈ S.ino, inoB S.ino x = true := fun x hx => List.all_eq_true.1 hI x hx
 have ents : ∀ x ∈ S.ino, x.dir = true → entsB S.ino x.ents = true := fun x hx hd => by
  have := hi x hx
  unfold inoB at this
  rw [if_pos hd, Bool.and_eq_true] at this
  exact this.2
 have fil : ∀ x ∈ S.ino, x.dir = false → x.ents = [] ∧ x.data.size ≤ 256 := fun x hx hd => by
  have := hi x hx
  unfold inoB at this
  rw [if_neg (by rw [hd]; simp), Bool.and_eq_true, decide_eq_true_eq] at this
  exact ⟨List.isEmpty_iff.1 this.1, this.2⟩
 have dsz : ∀ x ∈ S.ino, x.dir = true → x.data.size = 0 := fun x hx hd => by
  have := hi x hx
  unfold inoB at this
  rw [if_pos hd, Bool.and_eq_true] at this
  have h2 := List.isEmpty_iff.1 this.1
  have h3 : x.data.toList.length = x.data.size := by rw [ByteArray.toList_eq]; simp
  rw [h2] at h3
  simpa using h3.symm
 unfold opensB at hO
 rw [Bool.and_eq_true] at hO
 refine ⟨tr.clo, tr, ia, fun x hx => ?_, hO.1, rg.few, fun x hx => ?_, fun x hx e he => ?_, fun x hx => ?_, rg.ino, fun d hd => ?_, m1, m8, mg, gv⟩
 ·
  rcases hd : x.dir with _ | _
  · rw [(fil x hx hd).1]; rfl
  · exact (ents_iff.1 (ents x hx hd)).2.2
 ·
  rcases hd : x.dir with _ | _
  · rw [(fil x hx hd).1]; simp
  ·
   have := (ents_iff.1 (ents x hx hd)).2.1
   have h0 := this 0 (by omega)
   have h1 := this 1 (by omega)
   have h2 := this 2 (by omega)
   have h3 := this 3 (by omega)
   have h4 := this 4 (by omega)
   have h5 := this 5 (by omega)
   have h6 := this 6 (by omega)
   have h7 := this 7 (by omega)
   have := in_sum x.ents
   omega
 ·
  obtain ⟨k, hk, rfl⟩ := List.getElem_of_mem hx
  exact (ino_ents hI hk e he).2.1
 ·
  rcases hd : x.dir with _ | _
  · exact (fil x hx hd).2
  · rw [dsz x hx hd]; omega
 ·
  have := List.all_eq_true.1 hO.2 d hd
  unfold desB at this
  simp only [Bool.and_eq_true, decide_eq_true_eq] at this
  obtain ⟨⟨⟨⟨h1, h2⟩, h3⟩, h4⟩, h5⟩ := this
  refine ⟨h1, by omega, h3, by omega, ?_⟩
  rcases ha : atR S.ino d.2.2 with _ | k
  · rw [ha] at h5; cases h5
  ·
   rw [ha] at h5
   obtain ⟨hk, -⟩ := at_get ha
   refine ⟨k, hk, rfl, ?_⟩
   simp only [List.getElem?_eq_getElem hk, Option.map_some, Option.getD_some] at h5
   simpa using h5
theorem Wel.few2 {S : Sta} (h : Wel S) : S.opn.length ≤ 32 := by
 have key : ∀ i (hi : i < S.opn.length), (i : Int) ≤ (S.opn[i]).1 * 4 + (S.opn[i]).2.1 := by
  intro i
  induction i with
  | zero => intro hi; have := h.fds _ (List.getElem_mem hi); omega
  | succ i ih =>
   intro hi
   have h1 := ih (by omega)
   have h2 := adj_iff.1 h.da i hi
   have h3 := h.fds _ (List.getElem_mem hi)
   have h4 := h.fds _ (List.getElem_mem (show i < S.opn.length by omega))
   unfold ltD at h2
   simp only [Bool.or_eq_true, Bool.and_eq_true, decide_eq_true_eq, beq_iff_eq] at h2
   omega
 rcases Nat.lt_or_ge 32 S.opn.length with hl | hl
 ·
  have h1 := key 32 hl
  have h2 := h.fds _ (List.getElem_mem hl)
  have := h.m8
  omega
 · exact hl
theorem Wel.fresh {S : Sta} (h : Wel S) {i : Nat} (hi : i < S.made.length) : ∀ x ∈ S.ino, x.num ≠ 2 + (i : Int) + 8 * S.made.getD i 0 := by
 intro x hx e
 have hg : S.made.getD i 0 = S.made[i] := by rw [List.getD_eq_getElem?_getD, List.getElem?_eq_getElem hi]; rfl
 have hm := h.mg _ (List.getElem_mem hi)
 rw [hg] at e
 obtain ⟨k, hk, rfl⟩ := List.getElem_of_mem hx
 cases k with
 | zero => have := h.tr.n0; omega
 | succ j =>
  have h8 := h.m8
  have := h.gv j hk
  obtain ⟨m, hm2⟩ : ∃ m : Nat, (S.ino[j + 1]).num - 2 = (m : Int) := ⟨((S.ino[j + 1]).num - 2).toNat, by omega⟩
  have hmod : m % 8 = i := by omega
  rw [given_in hm2 (by omega), decide_eq_true_eq] at this
  simp only [hmod] at this
  omega
theorem Wel.fit {S : Sta} (h : Wel S) {c : Cal} {i : Nat} (hc : c.core = (i : Int)) (hi : i < S.made.length) : Fit S c i :=
 ⟨h.clo, h.ia, h.ea, hc, by have := h.m8; omega, hi, h.mg, by rw [hc]; exact h.fresh hi, by have := h.few; omega⟩
theorem spot_name {L : List Ino} {s : ByteArray} {d : Int} {t : ByteArray} (h : spotR L s = .ok (d, t)) : chk t = 0 ∧ t.size ≤ 12 := by
 unfold spotR at h
 split at h
 · cases h
 split at h
 · cases h
 ·
  rename_i h1 h2
  split at h
  · cases h
  split at h
  ·
   simp only [Except.ok.injEq, Prod.mk.injEq] at h
   have hm : tx (parseR s).1 ((parseR s).1.length - 1) ∈ (parseR s).1 := tx_mem (by omega)
   rw [← h.2]
   have hc := (parse_few s).2.2 _ hm
   exact ⟨hc, (chk_size hc).1⟩
  · cases h
theorem k_fd {w : World} (a f z core fd : Int) (B X Y : Nat) (hX : w.cell? ⟨X, 0, none⟩ = some (.pointer (some ⟨B, 0, none⟩))) (hB : w.cell? ⟨B, 1, none⟩ = some (.int .i64 core)) (hY : w.cell? ⟨Y, 0, none⟩ = some (.int .i64 fd)) :
  Calls Tryz.prog 163 #[.agg #[.int .i64 a, .int .i64 f, .int .i64 z], .pointer (some ⟨X, 0, none⟩), .pointer (some ⟨Y, 0, none⟩)] w fun e w' => e = .returned (.bool (a == core && f == fd)) ∧ Kept [] w w' := by
 obtain ⟨W1, R, HWR, HKR, r0, r1, r2⟩ := box3 w (.int .i64 a) (.int .i64 f) (.int .i64 z) 83
 have HS : Hid (W1.cell? ⟨R, 0, none⟩ = some (.int .i64 a) ∧ W1.cell? ⟨R, 1, none⟩ = some (.int .i64 f) ∧ W1.cell? ⟨X, 0, none⟩ = some (.pointer (some ⟨B, 0, none⟩)) ∧ W1.cell? ⟨B, 1, none⟩ = some (.int .i64 core) ∧ W1.cell? ⟨Y, 0, none⟩ = some (.int .i64 fd)) := ⟨r0, r1, HKR.out.cell hX (by simp), HKR.out.cell hB (by simp), HKR.out.cell hY (by simp)⟩
 clear hX hB hY r0 r1 r2
 go_enter Tryz.func163, Tryz.ntmps163
 go_upto_region 1 with fail
 rw [HWR.out.1, HWR.out.2]
 clear HWR
 rcases hc : (a == core) with _ | _
 ·
  have HE : Hid ((a == core && f == fd) = false) := by show _ = _; rw [hc]; rfl
  refine wp_region_held_drew (S := fun w' => w'.cell? ⟨R, 0, none⟩ = some (.int .i64 a) ∧ w'.cell? ⟨R, 1, none⟩ = some (.int .i64 f) ∧ w'.cell? ⟨X, 0, none⟩ = some (.pointer (some ⟨B, 0, none⟩)) ∧ w'.cell? ⟨B, 1, none⟩ = some (.int .i64 core) ∧ w'.cell? ⟨Y, 0, none⟩ = some (.int .i64 fd)) (by kernel_rfl) ?_ (fun hHeld => ?_)
  · exact HS.out
  refine tkA 0 rfl ?_
  refine tkA 1 rfl ?_
  refine tkA 2 rfl ?_
  refine tkA 3 rfl ?_
  refine tkA 4 rfl ?_
  refine tkA 5 rfl ?_
  refine tkA 6 rfl ?_
  refine tkA 7 rfl ?_
  refine tkA 8 rfl ?_
  refine skA 9 rfl ?_
  refine skA 10 rfl ?_
  refine skA 11 rfl ?_
  refine skA 12 rfl ?_
  refine tkA 13 rfl ?_
  refine tkA 14 rfl ?_
  refine wpAnyH_done (by kernel_rfl) ?_ _
  go_wp2_with fail
  go_ret
  exact ⟨ret_bool HE.out.symm, HKR.out.drew⟩
 ·
  rcases hd : (f == fd) with _ | _
  ·
   have HE : Hid ((a == core && f == fd) = false) := by show _ = _; rw [hc, hd]; rfl
   refine wp_region_held_drew (S := fun w' => w'.cell? ⟨R, 0, none⟩ = some (.int .i64 a) ∧ w'.cell? ⟨R, 1, none⟩ = some (.int .i64 f) ∧ w'.cell? ⟨X, 0, none⟩ = some (.pointer (some ⟨B, 0, none⟩)) ∧ w'.cell? ⟨B, 1, none⟩ = some (.int .i64 core) ∧ w'.cell? ⟨Y, 0, none⟩ = some (.int .i64 fd)) (by kernel_rfl) ?_ (fun hHeld => ?_)
   · exact HS.out
   refine tkA 0 rfl ?_
   refine tkA 1 rfl ?_
   refine tkA 2 rfl ?_
   refine tkA 3 rfl ?_
   refine tkA 4 rfl ?_
   refine tkA 5 rfl ?_
   refine tkA 6 rfl ?_
   refine tkA 7 rfl ?_
   refine tkA 8 rfl ?_
   refine tkA 9 rfl ?_
   refine tkA 10 rfl ?_
   refine tkA 11 rfl ?_
   refine tkA 12 rfl ?_
   refine tkA 13 rfl ?_
   refine tkA 14 rfl ?_
   refine wpAnyH_done (by kernel_rfl) ?_ _
   go_wp2_with fail
   go_ret
   exact ⟨ret_bool HE.out.symm, HKR.out.drew⟩
  ·
   have HE : Hid ((a == core && f == fd) = true) := by show _ = _; rw [hc, hd]; rfl
   refine wp_region_held_drew (S := fun w' => w'.cell? ⟨R, 0, none⟩ = some (.int .i64 a) ∧ w'.cell? ⟨R, 1, none⟩ = some (.int .i64 f) ∧ w'.cell? ⟨X, 0, none⟩ = some (.pointer (some ⟨B, 0, none⟩)) ∧ w'.cell? ⟨B, 1, none⟩ = some (.int .i64 core) ∧ w'.cell? ⟨Y, 0, none⟩ = some (.int .i64 fd)) (by kernel_rfl) ?_ (fun hHeld => ?_)
   · exact HS.out
   refine tkA 0 rfl ?_
   refine tkA 1 rfl ?_
   refine tkA 2 rfl ?_
   refine tkA 3 rfl ?_
   refine tkA 4 rfl ?_
   refine tkA 5 rfl ?_
   refine tkA 6 rfl ?_
   refine tkA 7 rfl ?_
   refine tkA 8 rfl ?_
   refine tkA 9 rfl ?_
   refine tkA 10 rfl ?_
   refine tkA 11 rfl ?_
   refine tkA 12 rfl ?_
   refine tkA 13 rfl ?_
   refine tkA 14 rfl ?_
   refine wpAnyH_done (by kernel_rfl) ?_ _
   go_wp2_with fail
   go_ret
   exact ⟨ret_bool HE.out.symm, HKR.out.drew⟩
theorem ix_fd {w : World} {a : Option Addr} {L : List Ds} (hL : DesA w a L) (hn : L.length ≤ lim) (c : Nat) (core fd : Int) (B X Y : Nat) (hX : w.cell? ⟨X, 0, none⟩ = some (.pointer (some ⟨B, 0, none⟩)) ∧ w.cell? ⟨B, 1, none⟩ = some (.int .i64 core) ∧ w.cell? ⟨Y, 0, none⟩ = some (.int .i64 fd)) :
  Calls Tryz.prog 122 #[.slice a L.length c, .func (.func 163) #[] #[.pointer (some ⟨X, 0, none⟩), .pointer (some ⟨Y, 0, none⟩)]] w fun e w' => e = .returned (.int .i64 (ixI (fdP L core fd))) ∧ Kept [] w w' := by
 have HL : Hid (DesA w a L) := hL
 have HX : Hid (_) := hX
 unfold lim at hn
 clear hL hX
 go_enter Tryz.func122, Tryz.ntmps122
 go_wp2_with fail
 go_loopw [8] (fun i wr => ∃ n : Nat, i = .int .i64 (n : Int) ∧ n ≤ L.length ∧ Hid (Kept [] w wr ∧ ∀ j (hj : j < L.length), j < n → ((L[j]).1 == core && (L[j]).2.1 == fd) = false)) (fun i _ => (L.length - intOf i).toNat)
 case atStart => exact ⟨0, rfl, by omega, Kept.refl _ _, fun j _ hj => by omega⟩
 case round =>
  obtain ⟨n, rfl, hn, HJ⟩ := hrel
  by_cases hlt : n < L.length
  ·
   have i0 : (0 : Int) ≤ (n : Int) := by omega
   have i1 : (n : Int) < (L.length : Int) := by omega
   obtain ⟨b, o, ha, h1, h2, h3⟩ := (HL.out.kept HJ.out.1) n hlt
   subst ha
   have HX2 : Hid (wr.cell? ⟨X, 0, none⟩ = some (.pointer (some ⟨B, 0, none⟩)) ∧ wr.cell? ⟨B, 1, none⟩ = some (.int .i64 core) ∧ wr.cell? ⟨Y, 0, none⟩ = some (.int .i64 fd)) := ⟨HJ.out.1.cell HX.out.1 (by simp), HJ.out.1.cell HX.out.2.1 (by simp), HJ.out.1.cell HX.out.2.2 (by simp)⟩
   have HP : Hid (∃ x, x = ((L[n]).1 == core && (L[n]).2.1 == fd)) := ⟨_, rfl⟩
   go_wp2_with fail
   refine (k_fd (L[n]).1 (L[n]).2.1 (L[n]).2.2 core fd B X Y HX2.out.1 HX2.out.2.1 HX2.out.2.2).mono ?_
   rintro e w1 ⟨rfl, k1⟩
   have HK : Hid (Kept [] w w1) := HJ.out.1.trans k1 (by simp)
   clear k1 HP
   rcases he : ((L[n]).1 == core && (L[n]).2.1 == fd) with _ | _
   ·
    have HE : Hid (Kept [] w w1 ∧ ∀ j (hj : j < L.length), j < n + 1 → ((L[j]).1 == core && (L[j]).2.1 == fd) = false) := ⟨HK.out, fun j hj hjn => by
     by_cases e : j = n
     · subst e; exact he
     · exact HJ.out.2 j hj (by omega)⟩
    clear he HJ HK
    go_wp2_with fail
    go_roundw
    case rel => exact ⟨n + 1, by go_num, by omega, HE.out⟩
    case measure => simp [intOf]; omega
   ·
    have HE : Hid (fdP L core fd = some n) := idx_some hlt he HJ.out.2
    clear he HJ
    go_wp2_with fail
    go_ret
    exact ⟨ret_int (by rw [HE.out]; rfl), HK.out⟩
  ·
   have i1 : ¬ (n : Int) < (L.length : Int) := by omega
   have HE : Hid (fdP L core fd = none) := idx_none fun j hj => HJ.out.2 j hj (by omega)
   go_wp2_with fail
   go_ret
   exact ⟨ret_int (by rw [HE.out]; rfl), HJ.out.1⟩
theorem p_fd {w : World} {B : Nat} {c : Cal} {pk : Value} {p : Pl} {S : Sta} (h : Rd w B c pk p S) (fd : Int) :
  Calls Tryz.prog 152 #[.pointer (some ⟨B, 0, none⟩), .int .i64 fd] w fun e w' => e = .returned (.int .i64 (ixI (fdP S.opn c.core fd))) ∧ Kept [] w w' := by
 obtain ⟨W1, X, HWX, HKX, x0⟩ := box1 w (.pointer (some ⟨B, 0, none⟩)) 74
 obtain ⟨W2, Y, HWY, HKY, y0⟩ := box1 W1 (.int .i64 fd) 3
 have hY1 : Y = X + 1 := by rw [← HWY.out.2, ← HWX.out.1, ← HWX.out.2]; simp
 subst hY1
 have HK2 : Hid (Kept [] w W2) := HKX.out.trans HKY.out (by simp)
 have hR := h.kept HK2.out
 have HX : Hid (W2.cell? ⟨X, 0, none⟩ = some (.pointer (some ⟨B, 0, none⟩)) ∧ W2.cell? ⟨B, 1, none⟩ = some (.int .i64 c.core) ∧ W2.cell? ⟨X + 1, 0, none⟩ = some (.int .i64 fd)) := ⟨HKY.out.cell x0 (by simp), hR.c1, y0⟩
 have hX2 := HX.out.1
 have d9 := hR.c9
 have HD : Hid (DesA W2 p.a2 S.opn ∧ S.opn.length ≤ lim) := ⟨hR.sv.des, hR.sv.n2⟩
 have hmf := makeF
 clear h hR x0 y0 HKX HKY
 go_enter Tryz.func152, Tryz.ntmps152
 go_upto_region 1 with fail
 rw [HWX.out.1, HWY.out.1, HWX.out.2]
 clear HWX HWY
 go_wp2_with fail
 refine (ix_fd HD.out.1 HD.out.2 _ c.core fd B X (X + 1) HX.out).mono ?_
 rintro e w1 ⟨rfl, k1⟩
 have HK : Hid (Kept [] w w1) := HK2.out.trans k1 (by simp)
 clear k1
 go_wp2_with fail
 go_ret
 exact ⟨rfl, HK.out⟩
theorem p_own_none {w : World} {B : Nat} {c : Cal} {pk : Value} {p : Pl} {S : Sta} (h : Rd w B c pk p S) (hf : fdP S.opn c.core c.fd = none) :
  Calls Tryz.prog 137 #[.pointer (some ⟨B, 0, none⟩)] w fun e w' => e = thr 4 ∧ Kept [] w w' := by
 have HR : Hid (_) := h
 have HF : Hid (_) := hf
 have d2 := h.c2
 clear h hf
 go_enter Tryz.func137, Tryz.ntmps137
 go_wp2_with fail
 refine (p_fd HR.out c.fd).mono ?_
 rintro e w1 ⟨rfl, k1⟩
 have HK : Hid (Kept [] w w1) := k1
 rw [HF.out]
 unfold ixI
 clear k1 d2
 go_wp2_with fail
 refine (p_if 4 (by decide) w1).mono ?_
 rintro e w2 ⟨rfl, hw⟩
 subst hw
 exact ⟨rfl, rfl, HK.out⟩
theorem p_own_some {w : World} {B : Nat} {c : Cal} {pk : Value} {p : Pl} {S : Sta} (h : Rd w B c pk p S) {j : Nat} (hf : fdP S.opn c.core c.fd = some j) :
  Calls Tryz.prog 137 #[.pointer (some ⟨B, 0, none⟩)] w fun e w' => e = .returned (.int .i64 (j : Int)) ∧ Kept [] w w' := by
 have HR : Hid (_) := h
 have HF : Hid (_) := hf
 have d2 := h.c2
 clear h hf
 go_enter Tryz.func137, Tryz.ntmps137
 go_wp2_with fail
 refine (p_fd HR.out c.fd).mono ?_
 rintro e w1 ⟨rfl, k1⟩
 have HK : Hid (Kept [] w w1) := k1
 rw [HF.out]
 unfold ixI
 clear k1 d2
 have j0 : ¬ (j : Int) < 0 := by omega
 have j1 : decide ((j : Int) < 0) = false := by simp
 go_wp2_with fail
 refine (p_if_no 4 w1).mono ?_
 rintro e w2 ⟨rfl, hw⟩
 subst hw
 go_wp2_with fail
 go_ret
 exact ⟨rfl, HK.out⟩
theorem p_file_some {w : World} {B : Nat} {c : Cal} {pk : Value} {p : Pl} {S : Sta} (h : Rd w B c pk p S) {j k : Nat} (hf : fdP S.opn c.core c.fd = some j) (hj : j < S.opn.length) (hat : atR S.ino (S.opn[j]).2.2 = some k) {b o : Nat} (ha : p.a1 = some ⟨b, o, none⟩) :
  Calls Tryz.prog 140 #[.pointer (some ⟨B, 0, none⟩)] w fun e w' => e = .returned (.pointer (some ⟨b, o + k * 4, none⟩)) ∧ Kept [] w w' := by
 have HR : Hid (_) := h
 obtain ⟨g, q, ha2, -, -, hc⟩ := h.sv.des j hj
 obtain ⟨z, hz⟩ : ∃ z, (S.opn[j]).2.2 = z := ⟨_, rfl⟩
 rw [hz] at hc hat
 have HIn : Hid (∀ W, Sv W p S → Calls Tryz.prog 48 #[.agg #[.slice (some ⟨b, o, none⟩) S.ino.length p.c1, .slice (some ⟨g, q, none⟩) S.opn.length p.c2, .slice p.a3 S.made.length p.c3], .int .i64 z] W fun e w' => e = .returned (.pointer (some ⟨b, o + k * 4, none⟩)) ∧ Kept [] W w') := fun W hW => by
  have := p_inode_some hW z hat ha
  unfold sval at this
  rw [ha, ha2] at this
  exact this
 have d8 := h.c8
 have d9 := h.c9
 have d10 := h.c10
 rw [ha] at d8
 rw [ha2] at d9
 have HC : Hid (w.cell? ⟨B, 8, none⟩ = some (.slice (some ⟨b, o, none⟩) S.ino.length p.c1) ∧ w.cell? ⟨B, 9, none⟩ = some (.slice (some ⟨g, q, none⟩) S.opn.length p.c2) ∧ w.cell? ⟨B, 10, none⟩ = some (.slice p.a3 S.made.length p.c3) ∧ w.cell? ⟨g, q + j * 3 + 2, none⟩ = some (.int .i64 z)) := ⟨d8, d9, d10, hc⟩
 have HF : Hid (_) := hf
 have i0 : (0 : Int) ≤ (j : Int) := by omega
 have i1 : (j : Int) < (S.opn.length : Int) := by omega
 have i2 : ¬ (j : Int) < 0 := by omega
 clear h hf hat ha ha2 hc hz d8 d9 d10
 go_enter Tryz.func140, Tryz.ntmps140
 go_upto_region 1 with fail
 go_region_held3 (fun w' => w'.cell? ⟨B, 8, none⟩ = some (.slice (some ⟨b, o, none⟩) S.ino.length p.c1) ∧ w'.cell? ⟨B, 9, none⟩ = some (.slice (some ⟨g, q, none⟩) S.opn.length p.c2) ∧ w'.cell? ⟨B, 10, none⟩ = some (.slice p.a3 S.made.length p.c3) ∧ w'.cell? ⟨g, q + j * 3 + 2, none⟩ = some (.int .i64 z)) (first | exact HC.out | exact z4 | exact z5 | go_keep)
  (first
   | (go_at_call 137; refine (p_own_some (HR.out.kept (Kept.refl _ _).drew) HF.out).mono ?_; rintro e w4 ⟨rfl, k4⟩; have z4 := (⟨k4.cell (HC.out.1) (by simp), k4.cell (HC.out.2.1) (by simp), k4.cell (HC.out.2.2.1) (by simp), k4.cell (HC.out.2.2.2) (by simp)⟩ : w4.cell? ⟨B, 8, none⟩ = some (.slice (some ⟨b, o, none⟩) S.ino.length p.c1) ∧ w4.cell? ⟨B, 9, none⟩ = some (.slice (some ⟨g, q, none⟩) S.opn.length p.c2) ∧ w4.cell? ⟨B, 10, none⟩ = some (.slice p.a3 S.made.length p.c3) ∧ w4.cell? ⟨g, q + j * 3 + 2, none⟩ = some (.int .i64 z)); have HK4 : Hid (Kept [] w w4) := (Kept.refl _ _).drew.trans k4 (by simp); clear k4)
   | (go_at_call 48; refine (HIn.out _ (HR.out.sv.kept HK4.out)).mono ?_; rintro e w5 ⟨rfl, k5⟩; have z5 := (⟨k5.cell (z4.1) (by simp), k5.cell (z4.2.1) (by simp), k5.cell (z4.2.2.1) (by simp), k5.cell (z4.2.2.2) (by simp)⟩ : w5.cell? ⟨B, 8, none⟩ = some (.slice (some ⟨b, o, none⟩) S.ino.length p.c1) ∧ w5.cell? ⟨B, 9, none⟩ = some (.slice (some ⟨g, q, none⟩) S.opn.length p.c2) ∧ w5.cell? ⟨B, 10, none⟩ = some (.slice p.a3 S.made.length p.c3) ∧ w5.cell? ⟨g, q + j * 3 + 2, none⟩ = some (.int .i64 z)); have HK5 : Hid (Kept [] w w5) := HK4.out.trans k5 (by simp); clear k5))
 clear z4 z5
 go_wp2_with fail
 go_ret
 exact ⟨rfl, HK5.out⟩
theorem p_file_none {w : World} {B : Nat} {c : Cal} {pk : Value} {p : Pl} {S : Sta} (h : Rd w B c pk p S) (hf : fdP S.opn c.core c.fd = none) :
  Calls Tryz.prog 140 #[.pointer (some ⟨B, 0, none⟩)] w fun e w' => e = thr 4 ∧ Kept [] w w' := by
 have HR : Hid (_) := h
 have HC : Hid (w.cell? ⟨B, 8, none⟩ = some (.slice p.a1 S.ino.length p.c1) ∧ w.cell? ⟨B, 9, none⟩ = some (.slice p.a2 S.opn.length p.c2) ∧ w.cell? ⟨B, 10, none⟩ = some (.slice p.a3 S.made.length p.c3)) := ⟨h.c8, h.c9, h.c10⟩
 have HF : Hid (_) := hf
 clear h hf
 go_enter Tryz.func140, Tryz.ntmps140
 go_upto_region 1 with fail
 refine wp_region_held_drew (S := fun w' => w'.cell? ⟨B, 8, none⟩ = some (.slice p.a1 S.ino.length p.c1) ∧ w'.cell? ⟨B, 9, none⟩ = some (.slice p.a2 S.opn.length p.c2) ∧ w'.cell? ⟨B, 10, none⟩ = some (.slice p.a3 S.made.length p.c3)) (by kernel_rfl) ?_ (fun hHeld => ?_)
 · exact HC.out
 refine tkA 0 rfl ?_
 refine tkA 1 rfl ?_
 refine tkA 2 rfl ?_
 refine tkA 3 rfl ?_
 refine tkA 4 rfl ?_
 refine tkA 5 rfl ?_
 refine tkA 6 rfl ?_
 refine tkA 7 rfl ?_
 refine tkA 8 rfl ?_
 refine tkA 9 rfl ?_
 refine wpAnyH_ready (rs := [10]) (by kernel_rfl) (by simp) ?_
 refine AllReadyH.cons rfl (fun K hK => ?_) AllReadyH.nil
 go_simp
 refine (p_own_none (HR.out.kept (Kept.refl _ _).drew) HF.out).mono ?_
 rintro e w4 ⟨rfl, k4⟩
 exact ⟨rfl, rfl, (Kept.refl _ _).drew.trans k4 (by simp)⟩
theorem p_infile (n : Int) (w : World) : Calls Tryz.prog 141 #[.int .i64 n] w fun e w' => e = .returned (.bool (decide (0 ≤ n) && decide (n ≤ 256))) ∧ w' = w := by
 by_cases h1 : 0 ≤ n
 ·
  have t1 : decide (n ≥ 0) = true := by simpa using h1
  by_cases h2 : n ≤ 256
  ·
   go_enter Tryz.func141, Tryz.ntmps141
   go_wp2_with fail
   go_ret
   exact ⟨ret_bool (by simp [h1, h2]), rfl⟩
  ·
   go_enter Tryz.func141, Tryz.ntmps141
   go_wp2_with fail
   go_ret
   exact ⟨ret_bool (by simp [h2]), rfl⟩
 ·
  have t1 : decide (n ≥ 0) = false := by simpa using h1
  go_enter Tryz.func141, Tryz.ntmps141
  go_wp2_with fail
  go_ret
  exact ⟨ret_bool (by simp [h1]), rfl⟩
theorem run_copy_str {P : Program} (w : World) (dT sT ty elem : TypeId) (g o dLen dCap : Nat) (s : ByteArray) (cur : Array Value) (t : TypeId)
  (hu : P.underlying dT = some (.slice elem)) (hs : (P.info? elem).map (·.size) = some 1) (hg : w.heap[g]? = some (.cells cur t (0, 0))) (hfit : o + Nat.min s.size dLen ≤ cur.size) :
  (Builtin.copy_ #[dT, sT] ty #[.slice (some ⟨g, o, none⟩) dLen dCap, .string s]).run P w =
   .ok (goInt (Nat.min s.size dLen)) (w.setRow g (cur.toList.take o ++ (s.data.toList.map fun b => Value.int .u8 (b.toNat : Int)).take (Nat.min s.size dLen) ++ cur.toList.drop (o + Nat.min s.size dLen)).toArray) := by
 have hsz : s.data.toList.length = s.size := by simp
 have hlen : ((s.data.toList.map fun b => Value.int .u8 (b.toNat : Int)).take (Nat.min s.size dLen)).length = Nat.min s.size dLen := by
  rw [List.length_take, List.length_map, hsz]
  exact Nat.min_eq_left (Nat.min_le_left _ _)
 have hst := run_storeCells_at P g o t ((s.data.toList.map fun b => Value.int .u8 (b.toNat : Int)).take (Nat.min s.size dLen)) 0 cur w hg (by rw [hlen]; simpa using hfit) (fun v hv => by
  obtain ⟨b, -, rfl⟩ := List.mem_map.1 (List.mem_of_mem_take hv)
  rfl)
 rw [hlen] at hst
 simp only [Nat.add_zero] at hst
 cases hq : P.info? elem with
 | none => simp [hq] at hs
 | some i =>
  have h1 : i.size = 1 := by simpa [hq] using hs
  simp [Builtin.copy_, run_underlying hu, Builtin.lenOf, Builtin.firstCells, sizeOf, typeInfo, hq, h1]
  rw [hst]
  simp [Result.andThen]
def byI (s : ByteArray) : List Int := s.data.toList.map fun b => (b.toNat : Int)
def sizedL (s : ByteArray) (k : Nat) : List Int := (byI s).take k ++ List.replicate (k - s.size) 0
theorem byI_length (s : ByteArray) : (byI s).length = s.size := by simp [byI]
theorem sizedL_length (s : ByteArray) (k : Nat) : (sizedL s k).length = k := by
 unfold sizedL
 rw [List.length_append, List.length_take, byI_length, List.length_replicate]
 omega
theorem sz5 : (Tryz.prog.info? 5).map (·.size) = some 1 := by kernel_rfl
theorem Bs.setRow {w0 W : World} {B : Nat} {xs : List Int} (h : Bs w0 W B xs) (ys : List Int) : Bs w0 (W.setRow B (ys.map (Value.int .u8)).toArray) B ys :=
 ⟨h.kept.setRow (Or.inr h.new) _, h.new, setRow_heap W B _ _ _ _ h.here⟩
@[reducible] def withD (x : Ino) (d : ByteArray) : Ino := { x with data := d }
@[reducible] def setD (S : Sta) (k : Nat) (hk : k < S.ino.length) (d : ByteArray) : Sta := ⟨S.ino.set k (withD (S.ino[k]) d), S.opn, S.made⟩
theorem inoC_setD : ∀ {L : List Ino} {vs : List Value} {k : Nat} {x : Ino} (hk : k < L.length), vs.length = L.length → x.num = (L[k]).num → x.dir = (L[k]).dir → inoC (L.set k x) vs = (inoC L vs).set (k * 4 + 3) (.string x.data)
 | y :: l, u :: vs, 0, x, _, _, h1, h2 => by
  simp only [List.getElem_cons_zero] at h1 h2
  simp [inoC, h1, h2]
 | y :: l, u :: vs, k + 1, x, hk, hl, h1, h2 => by
  have := inoC_setD (L := l) (vs := vs) (k := k) (x := x) (by simpa using hk) (by simpa using hl) (by simpa using h1) (by simpa using h2)
  have e : (k + 1) * 4 + 3 = k * 4 + 3 + 1 + 1 + 1 + 1 := by omega
  rw [e]
  simp only [List.set_cons_succ, inoC, this]
 | y :: l, [], _, _, _, h, _, _ => by simp at h
theorem Os.setDat {w : World} {H : Nat} {v1 v2 v3 : Value} {ev : List Value} {S : Sta} (h : Os w H v1 v2 v3 ev S) {k : Nat} (hk : k < S.ino.length) {g c1 : Nat} (hv1 : v1 = .slice (some ⟨g, 0, none⟩) S.ino.length c1) (d : ByteArray) :
  Os (w.setCell ⟨g, k * 4 + 3, none⟩ (.string d)) H v1 v2 v3 ev (setD S k hk d) := by
 have hg : v1.ownBlock = some g := by rw [hv1]; rfl
 have sB : Kept [g] w (w.setCell ⟨g, k * 4 + 3, none⟩ (.string d)) := kept_set
 have no : ∀ {u : Value}, Ap v1 u → ∀ y ∈ [g], u.ownBlock ≠ some y := fun hu y hy e => by
  rw [List.mem_singleton] at hy
  subst hy
  exact hu y hg e
 refine ⟨?_, by simp [h.evl], ?_, row_keep h.opn sB (no h.a12), row_keep h.mad sB (no h.a13), h.a12, h.a13, h.a23, h.ae, h.aee⟩
 ·
  have r1 := h.ino
  subst hv1
  have := (r1.stored (k * 4 + 3) (.string d)).1
  rw [← inoC_setD hk h.evl (x := withD (S.ino[k]) d) rfl rfl] at this
  simpa using this
 ·
  intro i hi hv
  have hi' : i < S.ino.length := by simpa using hi
  have e1 : ((S.ino.set k (withD (S.ino[k]) d))[i]'hi).ents = (S.ino[i]).ents := by
   by_cases e : i = k
   · subst e; simp
   · rw [List.getElem_set_ne (by omega)]
  have := row_keep (h.ent i hi' hv) sB (no (h.ae _ (List.getElem_mem hv)).1)
  show World.ownsRow _ H 64 2 ev[i] ((S.ino.set k (withD (S.ino[k]) d))[i]'hi).ents.length (flat ((S.ino.set k (withD (S.ino[k]) d))[i]'hi).ents)
  rw [e1]
  exact this
theorem Bd.setDat {S : Sta} (h : Bd S) {k : Nat} (hk : k < S.ino.length) {d : ByteArray} (hd : d.size ≤ 140737488351232) : Bd (setD S k hk d) := by
 have mem : ∀ y ∈ S.ino.set k (withD (S.ino[k]) d), (∃ x ∈ S.ino, y.num = x.num ∧ y.ents = x.ents) ∧ (y ∈ S.ino ∨ y.data = d) := fun y hy => by
  rcases List.mem_or_eq_of_mem_set hy with h1 | h1
  · exact ⟨⟨y, h1, rfl, rfl⟩, Or.inl h1⟩
  ·
   subst h1
   exact ⟨⟨_, List.getElem_mem hk, rfl, rfl⟩, Or.inr rfl⟩
 refine ⟨by simpa using h.n1, h.n2, h.n3, fun y hy => ?_, fun y hy => ?_, fun y hy => ?_, fun y hy => ?_⟩
 ·
  obtain ⟨⟨x, hx, -, e⟩, -⟩ := mem y hy
  rw [e]; exact h.n4 x hx
 ·
  obtain ⟨⟨x, hx, e, -⟩, -⟩ := mem y hy
  rw [e]; exact h.w1 x hx
 ·
  rcases (mem y hy).2 with h1 | h1
  · exact h.d1 y h1
  · rw [h1]; exact hd
 ·
  obtain ⟨⟨x, hx, -, e⟩, -⟩ := mem y hy
  rw [e]; exact h.e1 x hx
theorem p_sized (s : ByteArray) (n : Nat) (hn : n ≤ 140737488351232) (w : World) :
  Calls Tryz.prog 142 #[.string s, .int .i64 (n : Int)] w fun e w' => ∃ G, e = .returned (.slice (some ⟨G, 0, none⟩) n n) ∧ Bs w w' G (sizedL s n) := by
 have hmk := make_bytes n hn
 obtain ⟨W1, hW1⟩ : ∃ W1, w.alloc (.cells ((List.replicate n (0 : Int)).map (Value.int .u8)).toArray 5) = W1 := ⟨_, rfl⟩
 have hmk1 := hmk w
 rw [hW1] at hmk1
 have hB := Bs.made (Kept.refl [] w) n
 rw [hW1] at hB
 have hcp := run_copy_str (P := Tryz.prog) W1 133 9 3 5 w.heap.size 0 n n s _ 5 Tryz.underlying133 sz5 hB.here (by simp; exact Nat.min_le_right _ _)
 have e1 : (((List.replicate n (0 : Int)).map (Value.int .u8)).toArray.toList.take 0 ++ (s.data.toList.map fun b => Value.int .u8 (b.toNat : Int)).take (Nat.min s.size n) ++ ((List.replicate n (0 : Int)).map (Value.int .u8)).toArray.toList.drop (0 + Nat.min s.size n)) = (sizedL s n).map (Value.int .u8) := by
  unfold sizedL byI
  rw [List.map_append, List.map_take, List.map_map, List.take_zero, List.nil_append]
  congr 1
  ·
   have : (s.data.toList.map fun b => Value.int .u8 (b.toNat : Int)).length = s.size := by simp
   rw [show Nat.min s.size n = min s.size n from rfl, ← this, Nat.min_comm, ← List.take_take]
   rw [List.take_length]
   rfl
  ·
   simp only [List.map_replicate, Nat.zero_add, List.drop_replicate]
   congr 1
   show n - min s.size n = n - s.size
   omega
 rw [e1] at hcp
 have hB2 := hB.setRow (sizedL s n)
 obtain ⟨W2, hW2⟩ : ∃ W2, W1.setRow w.heap.size ((sizedL s n).map (Value.int .u8)).toArray = W2 := ⟨_, rfl⟩
 rw [hW2] at hcp hB2
 have HB : Hid (_) := hB2
 have hgi : goInt (Nat.min s.size n) = .int .i64 ((Nat.min s.size n : Nat) : Int) := rfl
 rw [hgi] at hcp
 have hn63 : n ≤ 9223372036854775807 := by omega
 clear hW1 hW2 hB hB2 hmk e1 hgi
 go_enter Tryz.func142, Tryz.ntmps142
 go_wp2_with fail
 go_ret
 exact ⟨_, rfl, HB.out⟩
theorem Cb.setDat {w0 w : World} {B : Nat} {c : Cal} {pk v1 v2 v3 : Value} {ev : List Value} {S : Sta} (h : Cb w0 w B c pk v1 v2 v3 ev S) {k : Nat} (hk : k < S.ino.length) {g c1 : Nat} (hv1 : v1 = .slice (some ⟨g, 0, none⟩) S.ino.length c1) {d : ByteArray} (hd : d.size ≤ 140737488351232) :
  Cb w0 (w.setCell ⟨g, k * 4 + 3, none⟩ (.string d)) B c pk v1 v2 v3 ev (setD S k hk d) := by
 have hg : v1.ownBlock = some g := by rw [hv1]; rfl
 have hBg : B ≠ g := fun e => (h.off B (by simp)).1 (by rw [hg, e])
 exact ⟨h.k.setCell (Or.inr (h.os.ino.lt g hg).1) _, by rw [block_other hBg]; exact h.box, h.os.setDat hk hv1 d, h.off, h.lo, h.tab, h.bd.setDat hk hd⟩
theorem FrB.ino {B : Nat} {w : World} {v1 v2 v3 : Value} {ev : List Value} {g i n c : Nat} (hv : v1 = .slice (some ⟨g, 0, none⟩) n c) (v : Value) : FrB B w (w.setCell ⟨g, i, none⟩ v) v1 v2 v3 ev v1 v2 v3 ev :=
 ⟨(kept_set (w := w) (B := g) (i := i) (v := v)).size, fun Z hZ _ ho => ⟨block_other (fun e => (ho Z (by simp)).1 (by rw [hv, e]; rfl)), ho⟩⟩
theorem p_read_none {w0 w : World} {B : Nat} {c : Cal} {pk v1 v2 v3 : Value} {ev : List Value} {S : Sta} (h : Cb w0 w B c pk v1 v2 v3 ev S) (hf : fdP S.opn c.core c.fd = none) :
  Calls Tryz.prog 106 #[.pointer (some ⟨B, 0, none⟩)] w (Out w0 w B c pk v1 v2 v3 ev S (.error 4)) := by
 obtain ⟨W1, R, HWR, HKR, HRb, HC1, HRo, HRw, HRl, p, e1, e2, e3, hrd, f1, f3, HR, HV⟩ := prg h
 have HBd : Hid (Bd S) := h.bd
 have HF : Hid (_) := hf
 clear h e1 e2 e3 f1 f3 hrd hf
 go_enter Tryz.func106, Tryz.ntmps106
 go_upto_region 1 with fail
 rw [HWR.out.1, HWR.out.2]
 clear HWR
 go_wp2_with fail
 refine (p_file_none HR.out HF.out).mono ?_
 rintro e w1 ⟨rfl, k1⟩
 exact ⟨rfl, Out.err rfl (HC1.out.kept k1) (FrB.kept (HKR.out.trans k1 (by simp)))⟩
theorem p_write_none {w0 w : World} {B : Nat} {c : Cal} {pk v1 v2 v3 : Value} {ev : List Value} {S : Sta} (h : Cb w0 w B c pk v1 v2 v3 ev S) (hf : fdP S.opn c.core c.fd = none) :
  Calls Tryz.prog 107 #[.pointer (some ⟨B, 0, none⟩)] w (Out w0 w B c pk v1 v2 v3 ev S (.error 4)) := by
 obtain ⟨W1, R, HWR, HKR, HRb, HC1, HRo, HRw, HRl, p, e1, e2, e3, hrd, f1, f3, HR, HV⟩ := prg h
 have HBd : Hid (Bd S) := h.bd
 have HF : Hid (_) := hf
 clear h e1 e2 e3 f1 f3 hrd hf
 go_enter Tryz.func107, Tryz.ntmps107
 go_upto_region 1 with fail
 rw [HWR.out.1, HWR.out.2]
 clear HWR
 go_wp2_with fail
 refine (p_file_none HR.out HF.out).mono ?_
 rintro e w1 ⟨rfl, k1⟩
 exact ⟨rfl, Out.err rfl (HC1.out.kept k1) (FrB.kept (HKR.out.trans k1 (by simp)))⟩
end Go.Proofs.YtffncojcnbhblaaGreatDoor
