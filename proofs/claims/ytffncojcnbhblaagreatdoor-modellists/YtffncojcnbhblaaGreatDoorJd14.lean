/-
  Joined of my texts Sp Sq.
-/
import Derived.Test.YtffncojcnbhblaaGreatDoorJd13
set_option linter.unusedVariables false
set_option linter.unusedSimpArgs false
set_option maxRecDepth 100000
set_option maxHeartbeats 8000000
namespace Go.Proofs.YtffncojcnbhblaaGreatDoor
open Go.RowKit
def Ret (r : Except Int Value) (e : Ending) : Prop := match r with
 | .error code => e = thr code
 | .ok v => e = .returned v
theorem Ret.err {r : Except Int Value} {code : Int} (h : r = .error code) : Ret r (thr code) := by rw [h]; rfl
theorem Ret.val {r : Except Int Value} {v : Value} (h : r = .ok v) : Ret r (.returned v) := by rw [h]; rfl
structure Clo (L : List Ino) : Prop where
 root : (atR L 1).isSome = true
 ent : ∀ k (hk : k < L.length), ∀ e ∈ (L[k]).ents, (atR L e.2).isSome = true
theorem Tr.clo {L : List Ino} (h : Tr L) : Clo L := ⟨by rw [h.root.1]; rfl, fun k hk e he => (h.ent k hk e he).2⟩
theorem walk_found {L : List Ino} (h : Clo L) : ∀ {xs : List ByteArray} {num z : Int}, walkR L num xs = (z, 0) → (atR L num).isSome = true → (atR L z).isSome = true
 | [], num, z, hw, hn => by rw [walkR] at hw; simp at hw; rw [← hw]; exact hn
 | t :: ts, num, z, hw, hn => by
  rcases ha : atR L num with _ | k
  · rw [ha] at hn; cases hn
  ·
   obtain ⟨hk, -⟩ := at_get ha
   rcases hd : (L[k]).dir with _ | _
   · rw [walk_file ha hk hd] at hw; cases hw
   ·
    rcases hp : plR (L[k]).ents t with _ | i
    · rw [walk_miss ha hk hd hp] at hw; cases hw
    ·
     obtain ⟨hi, -⟩ := idx_get hp
     rw [walk_on ha hk hd hp hi] at hw
     exact walk_found h hw (h.ent k hk _ (List.getElem_mem hi))
theorem find_found {L : List Ino} (h : Clo L) {s : ByteArray} {z : Int} (hf : findR L s = (z, 0)) : (atR L z).isSome = true := by
 unfold findR at hf
 split at hf
 · exact walk_found h hf h.root
 · rename_i hc; simp at hf; exact absurd hf.2 hc
def spotR (L : List Ino) (s : ByteArray) : Except Int (Int × ByteArray) :=
 if codeR (parseR s).2 ≠ 0 then .error (codeR (parseR s).2) else
 if (parseR s).1.length = 0 then .error 9 else
 if (walkR L 1 ((parseR s).1.take ((parseR s).1.length - 1))).2 ≠ 0 then .error (walkR L 1 ((parseR s).1.take ((parseR s).1.length - 1))).2 else
 if dirOf L (walkR L 1 ((parseR s).1.take ((parseR s).1.length - 1))).1 then .ok ((walkR L 1 ((parseR s).1.take ((parseR s).1.length - 1))).1, tx (parseR s).1 ((parseR s).1.length - 1)) else .error 7
def spotV (L : List Ino) (s : ByteArray) : Except Int Value := match spotR L s with
 | .error code => .error code
 | .ok (d, t) => .ok (.agg #[.int .i64 d, .string t])
theorem spot_dir {L : List Ino} {s : ByteArray} {d : Int} {t : ByteArray} (h : spotR L s = .ok (d, t)) : dirOf L d = true := by
 unfold spotR at h
 split at h
 · cases h
 split at h
 · cases h
 split at h
 · cases h
 split at h
 ·
  rename_i hd
  simp at h
  rw [← h.1]
  exact hd
 · cases h
theorem p_spot {w : World} {B : Nat} {c : Cal} {pk : Value} {p : Pl} {S : Sta} (h : Rd w B c pk p S) (hcl : Clo S.ino) (s : ByteArray) :
  Calls Tryz.prog 128 #[.pointer (some ⟨B, 0, none⟩), .string s] w fun e w' => Ret (spotV S.ino s) e ∧ Kept [] w w' := by
 have HCl : Hid (_) := hcl
 obtain ⟨W1, R, HWR, HKR, r0, r1⟩ := box2 w (.int .i64 0) (.string ⟨#[]⟩) 147
 have HRb : Hid (W1.heap[R]? = some (.cells #[.int .i64 0, .string ⟨#[]⟩] 147 (0, 0)) ∧ w.heap.size ≤ R) := by
  rw [← HWR.out.1, ← HWR.out.2]; exact ⟨Go.heap_alloc_new _ _, Nat.le_refl _⟩
 have HR : Hid (Rd W1 B c pk p S) := h.kept HKR.out
 have HRlo : Hid (w.heap.size ≤ R) := HRb.out.2
 clear h hcl r0 r1
 go_enter Tryz.func128, Tryz.ntmps128
 go_upto_region 1 with fail
 rw [HWR.out.1, HWR.out.2]
 clear HWR
 go_wp2_with fail
 refine (p_names s W1 HR.out.tab).mono ?_
 rintro e w1 ⟨v, rfl, hS, hk⟩
 have HR1 : Hid (_) := HR.out.kept hk
 have HK1 : Hid (Kept [] w w1) := HKR.out.trans hk (by simp)
 have HRb1 : Hid (w1.heap[R]? = some (.cells #[.int .i64 0, .string ⟨#[]⟩] 147 (0, 0))) := (hk.block _ (lt_of_heap HRb.out.1) (by simp)).trans HRb.out.1
 obtain ⟨a, cc, hv, hcap, -⟩ := row_form hS
 have HS : Hid (Ss w1 a (parseR s).1) := by
  obtain ⟨a', c', hv', hs', -⟩ := hS.read
  rw [hv] at hv'
  simp only [Value.slice.injEq, true_and] at hv'
  rw [hv'.1]
  exact hs'
 subst hv
 have HDef : Hid (spotV S.ino s = match spotR S.ino s with
  | .error code => .error code
  | .ok (d, t) => .ok (.agg #[.int .i64 d, .string t])) := rfl
 have HSp : Hid (spotR S.ino s = if codeR (parseR s).2 ≠ 0 then .error (codeR (parseR s).2) else
  if (parseR s).1.length = 0 then .error 9 else
  if (walkR S.ino 1 ((parseR s).1.take ((parseR s).1.length - 1))).2 ≠ 0 then .error (walkR S.ino 1 ((parseR s).1.take ((parseR s).1.length - 1))).2 else
  if dirOf S.ino (walkR S.ino 1 ((parseR s).1.take ((parseR s).1.length - 1))).1 then .ok ((walkR S.ino 1 ((parseR s).1.take ((parseR s).1.length - 1))).1, tx (parseR s).1 ((parseR s).1.length - 1)) else .error 7) := rfl
 obtain ⟨xs, hxs⟩ : ∃ xs, (parseR s).1 = xs := ⟨_, rfl⟩
 obtain ⟨x, hx⟩ : ∃ x, codeR (parseR s).2 = x := ⟨_, rfl⟩
 rw [hxs] at HS HSp hcap ⊢
 rw [hx] at HSp ⊢
 clear hxs hx hk hS HKR HR HRb
 by_cases hx0 : x ≠ 0
 ·
  have HE : Hid (spotV S.ino s = .error x) := by show _ = _; rw [HDef.out, HSp.out, if_pos hx0]
  have HX : Hid (_) := hx0
  clear HDef HSp
  go_wp2_with fail
  refine (p_throw x HX.out w1).mono ?_
  rintro e w2 ⟨rfl, hw⟩
  subst hw
  exact ⟨rfl, Ret.err HE.out, HK1.out⟩
 have hx1 : x = 0 := by omega
 subst hx1
 rw [if_neg (by simp)] at HSp
 clear hx0
 go_wp2_with fail
 refine (p_throw_ok w1).mono ?_
 rintro e w2 ⟨rfl, hw⟩
 subst hw
 have hxl : xs.length ≤ 9223372036854775807 := HS.out.1
 by_cases hl0 : xs.length = 0
 ·
  have HE : Hid (spotV S.ino s = .error 9) := by show _ = _; rw [HDef.out, HSp.out, if_pos hl0]
  have b1 : ((xs.length : Int) == 0) = true := by simpa using hl0
  clear HDef HSp hl0
  go_wp2_with fail
  refine (p_if 9 (by decide) w2).mono ?_
  rintro e w3 ⟨rfl, hw⟩
  subst hw
  exact ⟨rfl, Ret.err HE.out, HK1.out⟩
 rw [if_neg hl0] at HSp
 have b1 : ((xs.length : Int) == 0) = false := by simpa using hl0
 go_wp2_with fail
 refine (p_if_no 9 w2).mono ?_
 rintro e w3 ⟨rfl, hw⟩
 subst hw
 obtain ⟨m, hm⟩ : ∃ m : Nat, xs.length = m + 1 := ⟨xs.length - 1, by omega⟩
 have HM : Hid (_) := hm
 have v1 : wrap64 ((xs.length : Int) - 1) = (m : Int) := by unfold wrap64; omega
 have v2 : (xs.length : Int) - 1 = (m : Int) := by omega
 have v3 : IntKind.i64.wrap ((xs.length : Int) - 1) = (m : Int) := by rw [IntKind.wrap_i64]; omega
 have v4 : (0 : Int) ≤ (m : Int) := by omega
 have v5 : (m : Int) ≤ (cc : Int) := by omega
 have v6 : m ≤ cc := by omega
 have v7 : (m : Int) < (xs.length : Int) := by omega
 have v8 : (m : Int) ≤ 9223372036854775807 := by omega
 have e1 : xs.length - 1 = m := by omega
 rw [e1] at HSp
 have HTk : Hid (Ss w3 a (xs.take m) ∧ (xs.take m).length = m) := ⟨HS.out.take m, by rw [List.length_take]; omega⟩
 have HC : Hid (w3.cell? ⟨B, 8, none⟩ = some (.slice p.a1 S.ino.length p.c1) ∧ w3.cell? ⟨B, 9, none⟩ = some (.slice p.a2 S.opn.length p.c2) ∧ w3.cell? ⟨B, 10, none⟩ = some (.slice p.a3 S.made.length p.c3)) := ⟨HR1.out.c8, HR1.out.c9, HR1.out.c10⟩
 have HWk : Hid (∀ W, Sv W p S → Ss W a (xs.take m) → Calls Tryz.prog 30 #[sval p S, .slice a m cc] W fun e w' => e = .returned (.tuple #[.int .i64 (walkR S.ino 1 (xs.take m)).1, .int .i64 (walkR S.ino 1 (xs.take m)).2]) ∧ Kept [] W w') := fun W h1 h2 => by
  have := p_walk h1 h2 cc
  rw [HTk.out.2] at this
  exact this
 obtain ⟨num, hnum⟩ : ∃ num, (walkR S.ino 1 (xs.take m)).1 = num := ⟨_, rfl⟩
 obtain ⟨cd, hcd⟩ : ∃ cd, (walkR S.ino 1 (xs.take m)).2 = cd := ⟨_, rfl⟩
 have HW2 : Hid (walkR S.ino 1 (xs.take m) = (num, cd)) := by show _ = _; rw [← hnum, ← hcd]
 rw [hnum, hcd] at HSp HWk
 clear e1 hm hl0 hnum hcd b1
 go_upto_region 5 with fail
 go_region_held3 (fun w' => w'.cell? ⟨B, 8, none⟩ = some (.slice p.a1 S.ino.length p.c1) ∧ w'.cell? ⟨B, 9, none⟩ = some (.slice p.a2 S.opn.length p.c2) ∧ w'.cell? ⟨B, 10, none⟩ = some (.slice p.a3 S.made.length p.c3)) (first | exact HC.out | exact z4 | go_keep)
  (first
   | (go_at_call 30; refine (HWk.out _ (HR1.out.sv.kept (Kept.refl _ _).drew) (HTk.out.1.kept (Kept.refl _ _).drew)).mono ?_; rintro e w4 ⟨rfl, k4⟩; have z4 := (⟨k4.cell HC.out.1 (by simp), k4.cell HC.out.2.1 (by simp), k4.cell HC.out.2.2 (by simp)⟩ : w4.cell? ⟨B, 8, none⟩ = some (.slice p.a1 S.ino.length p.c1) ∧ w4.cell? ⟨B, 9, none⟩ = some (.slice p.a2 S.opn.length p.c2) ∧ w4.cell? ⟨B, 10, none⟩ = some (.slice p.a3 S.made.length p.c3)); have HK4 : Hid (Kept [] w3 w4) := (Kept.refl _ _).drew.trans k4 (by simp); clear k4))
 have HR4 : Hid (_) := HR1.out.kept HK4.out
 have HK04 : Hid (Kept [] w w4) := HK1.out.trans HK4.out (by simp)
 have HRb4 : Hid (_) := (HK4.out.block _ (lt_of_heap HRb1.out) (by simp)).trans HRb1.out
 clear z4 HC
 by_cases hc0 : cd ≠ 0
 ·
  have HE : Hid (spotV S.ino s = .error cd) := by show _ = _; rw [HDef.out, HSp.out, if_pos hc0]
  have HX : Hid (_) := hc0
  clear HDef HSp
  go_wp2_with fail
  refine (p_throw cd HX.out w4).mono ?_
  rintro e w5 ⟨rfl, hw⟩
  subst hw
  exact ⟨rfl, Ret.err HE.out, HK04.out⟩
 have hc1 : cd = 0 := by omega
 subst hc1
 rw [if_neg (by simp)] at HSp
 clear hc0
 go_wp2_with fail
 refine (p_throw_ok w4).mono ?_
 rintro e w5 ⟨rfl, hw⟩
 subst hw
 have hsome := walk_found HCl.out HW2.out HCl.out.root
 rcases hat : atR S.ino num with _ | k
 · rw [hat] at hsome; cases hsome
 obtain ⟨hkl, -⟩ := at_get hat
 have HDo : Hid (dirOf S.ino num = (S.ino[k]).dir) := by show _ = _; unfold dirOf; rw [hat]; simp [hkl]
 obtain ⟨b, o, ae, ce, ha, -, q1, -⟩ := HR4.out.sv.ino k hkl
 have HAt : Hid (atR S.ino num = some k ∧ p.a1 = some ⟨b, o, none⟩) := ⟨hat, ha⟩
 obtain ⟨d, hd⟩ : ∃ d, (S.ino[k]).dir = d := ⟨_, rfl⟩
 rw [hd] at q1 HDo
 rw [HDo.out] at HSp
 have d8 := HR4.out.c8
 have d9 := HR4.out.c9
 have d10 := HR4.out.c10
 clear hd ha hat hsome
 go_wp2_with fail
 refine (p_inode_some HR4.out.sv num HAt.out.1 HAt.out.2).mono ?_
 rintro e w6 ⟨rfl, k6⟩
 have q2 := k6.cell q1 (by simp)
 have HK06 : Hid (Kept [] w w6) := HK04.out.trans k6 (by simp)
 have HRb6 : Hid (_) := (k6.block _ (lt_of_heap HRb4.out) (by simp)).trans HRb4.out
 have HS6 : Hid (Ss w6 a xs) := (HS.out.kept HK4.out).kept k6
 clear k6 d8 d9 d10 q1
 cases d
 ·
  have HE : Hid (spotV S.ino s = .error 7) := by show _ = _; rw [HDef.out, HSp.out, if_neg (by simp)]
  clear HDef HSp
  go_wp2_with fail
  refine (p_if 7 (by decide) w6).mono ?_
  rintro e w7 ⟨rfl, hw⟩
  subst hw
  exact ⟨rfl, Ret.err HE.out, HK06.out⟩
 have HE : Hid (spotV S.ino s = .ok (.agg #[.int .i64 num, .string (tx xs m)])) := by show _ = _; rw [HDef.out, HSp.out, if_pos rfl]
 clear HDef HSp
 go_wp2_with fail
 refine (p_if_no 7 w6).mono ?_
 rintro e w7 ⟨rfl, hw⟩
 subst hw
 obtain ⟨b9, o9, ha9, hc9⟩ := HS6.out.2 m (by have := HM.out; omega)
 subst ha9
 obtain ⟨t0, t1⟩ : w7.cell? ⟨R, 0, none⟩ = some (.int .i64 0) ∧ w7.cell? ⟨R, 1, none⟩ = some (.string ⟨#[]⟩) := ⟨cellB HRb6.out, cellB HRb6.out⟩
 have f0 := frozen_of HRb6.out 0
 have f1 := frozen_of HRb6.out 1
 obtain ⟨t, ht⟩ : ∃ t, tx xs m = t := ⟨_, rfl⟩
 rw [ht] at hc9 HE
 have h9 : ((w7.setCell ⟨R, 0, none⟩ (.int .i64 num)).setCell ⟨R, 1, none⟩ (.string t)).heap[R]? = some (.cells #[.int .i64 num, .string t] 147 (0, 0)) := by
  rw [block_set (block_set HRb6.out 0 _) 1 _]; rfl
 have HK9 : Hid (Kept [] w ((w7.setCell ⟨R, 0, none⟩ (.int .i64 num)).setCell ⟨R, 1, none⟩ (.string t))) := (HK06.out.setCell (Or.inr HRlo.out) _).setCell (Or.inr HRlo.out) _
 clear ht
 go_wp2_with fail
 (try simp only [Exit.inBlock, Exit.then])
 refine bodyPost_ret (results_cell_row rfl _ _ R 147 #[.int .i64 num, .string t] (0, 0) _ rfl h9 Tryz.underlying147 rfl (by kernel_rfl)) rfl ?_
 exact ⟨Ret.val HE.out, HK9.out⟩
theorem p_at_none {w : World} {B : Nat} {c : Cal} {pk : Value} {p : Pl} {S : Sta} (h : Rd w B c pk p S) (d : Int) (t : ByteArray) {k : Nat} (hat : atR S.ino d = some k) (hk : k < S.ino.length) (hp : plR (S.ino[k]).ents t = none) :
  Calls Tryz.prog 129 #[.pointer (some ⟨B, 0, none⟩), .agg #[.int .i64 d, .string t]] w fun e w' => e = .returned (.pointer none) ∧ Kept [] w w' := by
 obtain ⟨W1, R, HWR, HKR, r0, r1⟩ := box2 w (.int .i64 d) (.string t) 147
 have HR : Hid (Rd W1 B c pk p S) := h.kept HKR.out
 obtain ⟨b, o, ae, ce, ha, -, -, q2, -, q4, -⟩ := HR.out.sv.ino k hk
 have HN : Hid ((S.ino[k]).ents.length ≤ lim) := h.sv.n4 _ (List.getElem_mem hk)
 have HP : Hid (_) := hp
 obtain ⟨E, hE⟩ : ∃ E, (S.ino[k]).ents = E := ⟨_, rfl⟩
 rw [hE] at q2 q4 HP HN
 have HEn : Hid (EntA W1 ae E) := q4
 have HA : Hid (atR S.ino d = some k ∧ p.a1 = some ⟨b, o, none⟩) := ⟨hat, ha⟩
 have d8 := HR.out.c8
 rw [ha] at d8
 have HC : Hid (W1.cell? ⟨B, 8, none⟩ = some (.slice (some ⟨b, o, none⟩) S.ino.length p.c1) ∧ W1.cell? ⟨B, 9, none⟩ = some (.slice p.a2 S.opn.length p.c2) ∧ W1.cell? ⟨B, 10, none⟩ = some (.slice p.a3 S.made.length p.c3) ∧ W1.cell? ⟨R, 0, none⟩ = some (.int .i64 d) ∧ W1.cell? ⟨b, o + k * 4 + 2, none⟩ = some (.slice ae E.length ce)) := ⟨d8, HR.out.c9, HR.out.c10, r0, q2⟩
 have HIn : Hid (∀ (z : Int) (j : Nat), atR S.ino z = some j → ∀ W, Sv W p S → Calls Tryz.prog 48 #[.agg #[.slice (some ⟨b, o, none⟩) S.ino.length p.c1, .slice p.a2 S.opn.length p.c2, .slice p.a3 S.made.length p.c3], .int .i64 z] W fun e w' => e = .returned (.pointer (some ⟨b, o + j * 4, none⟩)) ∧ Kept [] W w') := fun z j hj W hW => by
  have := p_inode_some hW z hj ha
  unfold sval at this
  rw [ha] at this
  exact this
 have hlim : E.length ≤ 140737488355328 := HN.out
 clear h hat hp hE q2 q4 ha d8 r0
 go_enter Tryz.func129, Tryz.ntmps129
 go_upto_region 1 with fail
 rw [HWR.out.1, HWR.out.2]
 clear HWR
 go_region_held3 (fun w' => w'.cell? ⟨B, 8, none⟩ = some (.slice (some ⟨b, o, none⟩) S.ino.length p.c1) ∧ w'.cell? ⟨B, 9, none⟩ = some (.slice p.a2 S.opn.length p.c2) ∧ w'.cell? ⟨B, 10, none⟩ = some (.slice p.a3 S.made.length p.c3) ∧ w'.cell? ⟨R, 0, none⟩ = some (.int .i64 d) ∧ w'.cell? ⟨b, o + k * 4 + 2, none⟩ = some (.slice ae E.length ce)) (first | exact HC.out | exact z4 | go_keep)
  (first
   | (go_at_call 48; refine (HIn.out d k HA.out.1 _ (HR.out.sv.kept (Kept.refl _ _).drew)).mono ?_; rintro e w4 ⟨rfl, k4⟩; have z4 := (⟨k4.cell (HC.out.1) (by simp), k4.cell (HC.out.2.1) (by simp), k4.cell (HC.out.2.2.1) (by simp), k4.cell (HC.out.2.2.2.1) (by simp), k4.cell (HC.out.2.2.2.2) (by simp)⟩ : w4.cell? ⟨B, 8, none⟩ = some (.slice (some ⟨b, o, none⟩) S.ino.length p.c1) ∧ w4.cell? ⟨B, 9, none⟩ = some (.slice p.a2 S.opn.length p.c2) ∧ w4.cell? ⟨B, 10, none⟩ = some (.slice p.a3 S.made.length p.c3) ∧ w4.cell? ⟨R, 0, none⟩ = some (.int .i64 d) ∧ w4.cell? ⟨b, o + k * 4 + 2, none⟩ = some (.slice ae E.length ce)); have HK4 : Hid (Kept [] W1 w4) := (Kept.refl _ _).drew.trans k4 (by simp); clear k4))
 have HEn4 : Hid (EntA w4 ae E) := HEn.out.kept HK4.out
 have HR4 : Hid (_) := HR.out.kept HK4.out
 have HK04 : Hid (Kept [] w w4) := HKR.out.trans HK4.out (by simp)
 have r2 := HK4.out.cell r1 (by simp)
 clear z4 HC HK4
 go_wp2_with fail
 refine (p_place HEn4.out HN.out _ t).mono ?_
 rintro e w5 ⟨rfl, k5⟩
 have HR5 : Hid (_) := HR4.out.kept k5
 have HK05 : Hid (Kept [] w w5) := HK04.out.trans k5 (by simp)
 rw [HP.out]
 unfold ixI
 clear k5 r2
 go_wp2_with fail
 go_ret
 exact ⟨rfl, HK05.out⟩
theorem p_at_some {w : World} {B : Nat} {c : Cal} {pk : Value} {p : Pl} {S : Sta} (h : Rd w B c pk p S) (d : Int) (t : ByteArray) {k : Nat} (hat : atR S.ino d = some k) (hk : k < S.ino.length) {i j : Nat} (hp : plR (S.ino[k]).ents t = some i ∧ ∃ hi : i < (S.ino[k]).ents.length, atR S.ino ((S.ino[k]).ents[i]).2 = some j) {b1 o1 : Nat} (ha1 : p.a1 = some ⟨b1, o1, none⟩) :
  Calls Tryz.prog 129 #[.pointer (some ⟨B, 0, none⟩), .agg #[.int .i64 d, .string t]] w fun e w' => e = .returned (.pointer (some ⟨b1, o1 + j * 4, none⟩)) ∧ Kept [] w w' := by
 obtain ⟨W1, R, HWR, HKR, r0, r1⟩ := box2 w (.int .i64 d) (.string t) 147
 have HR : Hid (Rd W1 B c pk p S) := h.kept HKR.out
 obtain ⟨b, o, ae, ce, ha, -, -, q2, -, q4, -⟩ := HR.out.sv.ino k hk
 have HN : Hid ((S.ino[k]).ents.length ≤ lim) := h.sv.n4 _ (List.getElem_mem hk)
 have HP : Hid (_) := hp
 have HA1 : Hid (p.a1 = some ⟨b1, o1, none⟩) := ha1
 clear ha1
 obtain ⟨E, hE⟩ : ∃ E, (S.ino[k]).ents = E := ⟨_, rfl⟩
 rw [hE] at q2 q4 HP HN
 have HEn : Hid (EntA W1 ae E) := q4
 have HA : Hid (atR S.ino d = some k ∧ p.a1 = some ⟨b, o, none⟩) := ⟨hat, ha⟩
 have d8 := HR.out.c8
 rw [ha] at d8
 have HC : Hid (W1.cell? ⟨B, 8, none⟩ = some (.slice (some ⟨b, o, none⟩) S.ino.length p.c1) ∧ W1.cell? ⟨B, 9, none⟩ = some (.slice p.a2 S.opn.length p.c2) ∧ W1.cell? ⟨B, 10, none⟩ = some (.slice p.a3 S.made.length p.c3) ∧ W1.cell? ⟨R, 0, none⟩ = some (.int .i64 d) ∧ W1.cell? ⟨b, o + k * 4 + 2, none⟩ = some (.slice ae E.length ce)) := ⟨d8, HR.out.c9, HR.out.c10, r0, q2⟩
 have HIn : Hid (∀ (z : Int) (j : Nat), atR S.ino z = some j → ∀ W, Sv W p S → Calls Tryz.prog 48 #[.agg #[.slice (some ⟨b, o, none⟩) S.ino.length p.c1, .slice p.a2 S.opn.length p.c2, .slice p.a3 S.made.length p.c3], .int .i64 z] W fun e w' => e = .returned (.pointer (some ⟨b, o + j * 4, none⟩)) ∧ Kept [] W w') := fun z j hj W hW => by
  have := p_inode_some hW z hj ha
  unfold sval at this
  rw [ha] at this
  exact this
 have hlim : E.length ≤ 140737488355328 := HN.out
 clear h hat hp hE q2 q4 ha d8 r0
 go_enter Tryz.func129, Tryz.ntmps129
 go_upto_region 1 with fail
 rw [HWR.out.1, HWR.out.2]
 clear HWR
 go_region_held3 (fun w' => w'.cell? ⟨B, 8, none⟩ = some (.slice (some ⟨b, o, none⟩) S.ino.length p.c1) ∧ w'.cell? ⟨B, 9, none⟩ = some (.slice p.a2 S.opn.length p.c2) ∧ w'.cell? ⟨B, 10, none⟩ = some (.slice p.a3 S.made.length p.c3) ∧ w'.cell? ⟨R, 0, none⟩ = some (.int .i64 d) ∧ w'.cell? ⟨b, o + k * 4 + 2, none⟩ = some (.slice ae E.length ce)) (first | exact HC.out | exact z4 | go_keep)
  (first
   | (go_at_call 48; refine (HIn.out d k HA.out.1 _ (HR.out.sv.kept (Kept.refl _ _).drew)).mono ?_; rintro e w4 ⟨rfl, k4⟩; have z4 := (⟨k4.cell (HC.out.1) (by simp), k4.cell (HC.out.2.1) (by simp), k4.cell (HC.out.2.2.1) (by simp), k4.cell (HC.out.2.2.2.1) (by simp), k4.cell (HC.out.2.2.2.2) (by simp)⟩ : w4.cell? ⟨B, 8, none⟩ = some (.slice (some ⟨b, o, none⟩) S.ino.length p.c1) ∧ w4.cell? ⟨B, 9, none⟩ = some (.slice p.a2 S.opn.length p.c2) ∧ w4.cell? ⟨B, 10, none⟩ = some (.slice p.a3 S.made.length p.c3) ∧ w4.cell? ⟨R, 0, none⟩ = some (.int .i64 d) ∧ w4.cell? ⟨b, o + k * 4 + 2, none⟩ = some (.slice ae E.length ce)); have HK4 : Hid (Kept [] W1 w4) := (Kept.refl _ _).drew.trans k4 (by simp); clear k4))
 have HEn4 : Hid (EntA w4 ae E) := HEn.out.kept HK4.out
 have HR4 : Hid (_) := HR.out.kept HK4.out
 have HK04 : Hid (Kept [] w w4) := HKR.out.trans HK4.out (by simp)
 have r2 := HK4.out.cell r1 (by simp)
 clear z4 HC HK4
 go_wp2_with fail
 refine (p_place HEn4.out HN.out _ t).mono ?_
 rintro e w5 ⟨rfl, k5⟩
 have HR5 : Hid (_) := HR4.out.kept k5
 have HK05 : Hid (Kept [] w w5) := HK04.out.trans k5 (by simp)
 obtain ⟨hi, hj⟩ := HP.out.2
 rw [HP.out.1]
 obtain ⟨be, oe, hbe, -, e2⟩ := (HEn4.out.kept k5) i hi
 obtain ⟨z, hz⟩ : ∃ z, (E[i]).2 = z := ⟨_, rfl⟩
 rw [hz] at e2 hj
 have HJ : Hid (_) := hj
 have d8 := HR5.out.c8
 rw [HA.out.2] at d8
 have HC : Hid (w5.cell? ⟨B, 8, none⟩ = some (.slice (some ⟨b, o, none⟩) S.ino.length p.c1) ∧ w5.cell? ⟨B, 9, none⟩ = some (.slice p.a2 S.opn.length p.c2) ∧ w5.cell? ⟨B, 10, none⟩ = some (.slice p.a3 S.made.length p.c3) ∧ w5.cell? ⟨be, oe + i * 2 + 1, none⟩ = some (.int .i64 z)) := ⟨d8, HR5.out.c9, HR5.out.c10, e2⟩
 have HE1 : Hid (b1 = b ∧ o1 = o) := by
  have := HA1.out
  rw [HA.out.2] at this
  simp only [Option.some.injEq, Addr.mk.injEq, and_true] at this
  exact ⟨this.1.symm, this.2.symm⟩
 have i0 : (0 : Int) ≤ (i : Int) := by omega
 have i1 : (i : Int) < (E.length : Int) := by omega
 have i2 : ¬ (i : Int) < 0 := by omega
 subst hbe
 unfold ixI
 clear k5 r2 hj hz e2 d8
 go_upto_region 5 with fail
 go_region_held3 (fun w' => w'.cell? ⟨B, 8, none⟩ = some (.slice (some ⟨b, o, none⟩) S.ino.length p.c1) ∧ w'.cell? ⟨B, 9, none⟩ = some (.slice p.a2 S.opn.length p.c2) ∧ w'.cell? ⟨B, 10, none⟩ = some (.slice p.a3 S.made.length p.c3) ∧ w'.cell? ⟨be, oe + i * 2 + 1, none⟩ = some (.int .i64 z)) (first | exact HC.out | exact z4 | go_keep)
  (first
   | (go_at_call 48; refine (HIn.out z j HJ.out _ (HR5.out.sv.kept (Kept.refl _ _).drew)).mono ?_; rintro e w6 ⟨rfl, k6⟩; have z4 := (⟨k6.cell (HC.out.1) (by simp), k6.cell (HC.out.2.1) (by simp), k6.cell (HC.out.2.2.1) (by simp), k6.cell (HC.out.2.2.2) (by simp)⟩ : w6.cell? ⟨B, 8, none⟩ = some (.slice (some ⟨b, o, none⟩) S.ino.length p.c1) ∧ w6.cell? ⟨B, 9, none⟩ = some (.slice p.a2 S.opn.length p.c2) ∧ w6.cell? ⟨B, 10, none⟩ = some (.slice p.a3 S.made.length p.c3) ∧ w6.cell? ⟨be, oe + i * 2 + 1, none⟩ = some (.int .i64 z)); have HK6 : Hid (Kept [] w5 w6) := (Kept.refl _ _).drew.trans k6 (by simp); clear k6))
 have HK06 : Hid (Kept [] w w6) := HK05.out.trans HK6.out (by simp)
 clear z4 HC
 go_wp2_with fail
 go_ret
 exact ⟨by rw [HE1.out.1, HE1.out.2]; rfl, HK06.out⟩
theorem p_numof (c g : Int) (w : World) (hc : 0 ≤ c ∧ c < 8) (hg : 0 ≤ g ∧ g ≤ 32) : Calls Tryz.prog 131 #[.int .i64 c, .int .i64 g] w fun e w' => e = .returned (.int .i64 (2 + c + 8 * g)) ∧ w' = w := by
 obtain ⟨h1, h2⟩ := hc
 obtain ⟨h3, h4⟩ := hg
 go_enter Tryz.func131, Tryz.ntmps131
 go_wp2_with fail
 go_ret
 exact ⟨rfl, rfl⟩
end Go.Proofs.YtffncojcnbhblaaGreatDoor
