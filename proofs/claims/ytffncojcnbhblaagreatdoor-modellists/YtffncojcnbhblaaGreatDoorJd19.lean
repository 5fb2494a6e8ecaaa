/-
  Joined of my texts Pu Oc.
-/
import Derived.Test.YtffncojcnbhblaaGreatDoorJd18
import Derived.Test.YtffncojcnbhblaaGreatDoorTk
set_option linter.unusedVariables false
set_option linter.unusedSimpArgs false
set_option maxRecDepth 100000
set_option maxHeartbeats 8000000
namespace Go.Proofs.YtffncojcnbhblaaGreatDoor
open List renaming setIfInBounds_toArray → lz0, set_cons_zero → lz1, set_cons_succ → lz2, getElem_toArray → lz3, getElem_cons_zero → lz4, getElem_cons_succ → lz5
open Go.RowKit
def Frm (w w' : World) (v1 v2 v3 : Value) (ev : List Value) (u1 u2 u3 : Value) (eu : List Value) : Prop := w.heap.size ≤ w'.heap.size ∧ ∀ Z, Z < w.heap.size → Off [Z] v1 v2 v3 ev → w'.heap[Z]? = w.heap[Z]? ∧ Off [Z] u1 u2 u3 eu
theorem p_put {w0 w : World} {B : Nat} {c : Cal} {pk v1 v2 v3 : Value} {ev : List Value} {S : Sta} (h : Cb w0 w B c pk v1 v2 v3 ev S) (d : Int) (t : ByteArray) (num : Int) {k : Nat} (hat : atR S.ino d = some k) (hk : k < S.ino.length) (hs : adj ltE (S.ino[k]).ents = true) (hbd : Bd (setE S k hk (insR ltE (S.ino[k]).ents (t, num)))) :
  Calls Tryz.prog 133 #[.pointer (some ⟨B, 0, none⟩), .agg #[.int .i64 d, .string t], .int .i64 num] w fun e w' => e = .returned (.tuple #[]) ∧ ∃ ev', Cb w0 w' B c pk v1 v2 v3 ev' (setE S k hk (insR ltE (S.ino[k]).ents (t, num))) ∧ Frm w w' v1 v2 v3 ev v1 v2 v3 ev' := by
 have hkv : k < ev.length := by rw [h.os.evl]; exact hk
 obtain ⟨W1, R, HWR, HKR, r0, r1⟩ := box2 w (.int .i64 d) (.string t) 147
 have HC1 : Hid (Cb w0 W1 B c pk v1 v2 v3 ev S) := h.kept HKR.out
 have hRn : ∀ {u : Value}, (∀ b, u.ownBlock = some b → b < w.heap.size) → u.ownBlock ≠ some R := fun hu e => by have := hu R e; rw [HWR.out.2] at this; omega
 obtain ⟨p, e1, e2, e3, hrd, f1, f3⟩ := HC1.out.rd
 obtain ⟨b, o, ae, ce, ha, -, -, q2, -⟩ := hrd.sv.ino k hk
 obtain ⟨g, hg⟩ := f1 _ ha
 simp only [Addr.mk.injEq, and_true] at hg
 obtain ⟨hb0, ho0⟩ := hg
 subst hb0 ho0
 obtain ⟨c1, hc1⟩ : ∃ c1, p.c1 = c1 := ⟨_, rfl⟩
 have HV1 : Hid (v1 = .slice (some ⟨b, 0, none⟩) S.ino.length c1) := by show _ = _; rw [e1, ha, hc1]
 have HA : Hid (atR S.ino d = some k ∧ p.a1 = some ⟨b, 0, none⟩) := ⟨hat, ha⟩
 have d8 := hrd.c8
 rw [ha, hc1] at d8
 have HC : Hid (W1.cell? ⟨B, 8, none⟩ = some (.slice (some ⟨b, 0, none⟩) S.ino.length c1) ∧ W1.cell? ⟨B, 9, none⟩ = some (.slice p.a2 S.opn.length p.c2) ∧ W1.cell? ⟨B, 10, none⟩ = some (.slice p.a3 S.made.length p.c3) ∧ W1.cell? ⟨R, 0, none⟩ = some (.int .i64 d)) := ⟨d8, hrd.c9, hrd.c10, r0⟩
 have HIn : Hid (∀ W, Kept [] W1 W → Calls Tryz.prog 48 #[.agg #[.slice (some ⟨b, 0, none⟩) S.ino.length c1, .slice p.a2 S.opn.length p.c2, .slice p.a3 S.made.length p.c3], .int .i64 d] W fun e w' => e = .returned (.pointer (some ⟨b, k * 4, none⟩)) ∧ Kept [] W w') := fun W hW => by
  have := p_inode_some (hrd.sv.kept hW) d hat ha
  unfold sval at this
  rw [ha, hc1, Nat.zero_add] at this
  exact this
 -- the entries' row
 obtain ⟨aE, cE, hE, -⟩ := row_form (HC1.out.os.ent k hk hkv)
 obtain ⟨E, hEE⟩ : ∃ E, (S.ino[k]).ents = E := ⟨_, rfl⟩
 have HBd : Hid (_) := hbd
 have HS2 : Hid (adj ltE E = true ∧ E.length ≤ 5864062014634) := ⟨by rw [← hEE]; exact hs, by rw [← hEE]; exact h.bd.n4 _ (List.getElem_mem hk)⟩
 have HF : Hid (R ∉ (ev[k]).ownBlock.toList ∧ b ∉ (ev[k]).ownBlock.toList) := ⟨fun hm => by
  rw [Option.mem_toList] at hm
  have := ((h.os.ent k hk hkv).lt R hm).2
  rw [HWR.out.2] at this
  omega, fun hm => by
  rw [Option.mem_toList] at hm
  exact (h.os.ae _ (List.getElem_mem hkv)).1 b (by rw [HV1.out]; rfl) hm⟩
 have HRb : Hid (R ≠ b) := fun e => by
  have := (h.os.ino.lt b (by rw [HV1.out]; rfl)).2
  rw [HWR.out.2] at this
  omega
 rw [hEE] at hE
 rw [hE] at HF
 have HEv : Hid (ev[k] = .slice aE E.length cE) := hE
 have HEE : Hid (_) := hEE
 clear h hat hs hbd d8 r0 e1 e2 e3 f1 f3 ha hc1 hrd q2 hRn hE hEE
 go_enter Tryz.func133, Tryz.ntmps133
 go_upto_region 1 with fail
 rw [HWR.out.1, HWR.out.2]
 clear HWR
 go_region_held3 (fun w' => w'.cell? ⟨B, 8, none⟩ = some (.slice (some ⟨b, 0, none⟩) S.ino.length c1) ∧ w'.cell? ⟨B, 9, none⟩ = some (.slice p.a2 S.opn.length p.c2) ∧ w'.cell? ⟨B, 10, none⟩ = some (.slice p.a3 S.made.length p.c3) ∧ w'.cell? ⟨R, 0, none⟩ = some (.int .i64 d)) (first | exact HC.out | exact z4 | go_keep)
  (first
   | (go_at_call 48; refine (HIn.out _ (Kept.refl _ _).drew).mono ?_; rintro e w4 ⟨rfl, k4⟩; have z4 := (⟨k4.cell (HC.out.1) (by simp), k4.cell (HC.out.2.1) (by simp), k4.cell (HC.out.2.2.1) (by simp), k4.cell (HC.out.2.2.2) (by simp)⟩ : w4.cell? ⟨B, 8, none⟩ = some (.slice (some ⟨b, 0, none⟩) S.ino.length c1) ∧ w4.cell? ⟨B, 9, none⟩ = some (.slice p.a2 S.opn.length p.c2) ∧ w4.cell? ⟨B, 10, none⟩ = some (.slice p.a3 S.made.length p.c3) ∧ w4.cell? ⟨R, 0, none⟩ = some (.int .i64 d)); have HK4 : Hid (Kept [] W1 w4) := (Kept.refl _ _).drew.trans k4 (by simp); clear k4))
 have HC4 : Hid (Cb w0 w4 B c pk v1 v2 v3 ev S) := HC1.out.kept HK4.out
 have HS : Hid (w4.cell? ⟨R, 1, none⟩ = some (.string t)) := HK4.out.cell r1 (by simp)
 have HG : Hid (w4.heap.size ≤ w4.heap.size ∧ R < w4.heap.size) := ⟨Nat.le_refl _, block_lt_of_cell HS.out⟩
 have HKw : Hid (Kept [] w w4) := HKR.out.trans HK4.out (by simp)
 clear z4 HC HK4 r1 HIn HC1 HA
 have HRow : Hid (w4.ownsRow w0.heap.size 64 2 (.slice aE E.length cE) E.length (flat E)) := by
  have := HC4.out.os.ent k hk hkv
  rw [HEv.out, HEE.out] at this
  exact this
 have HIr : Hid (w4.ownsRow w0.heap.size 62 4 (.slice (some ⟨b, 0, none⟩) S.ino.length c1) S.ino.length (inoC S.ino ev)) := by
  have := HC4.out.os.ino
  rw [HV1.out] at this
  exact this
 have HPut : Hid (∀ W, Kept [] w4 W → Calls Tryz.prog 151 #[.slice aE E.length cE, .agg #[.string t, .int .i64 num], .func (.func 80) #[] #[]] W (InsR w0.heap.size 64 2 (.slice aE E.length cE) (E.length + 1) (flat (insR ltE E (t, num))) W)) := fun W hW =>
  put_ent (row_keep HRow.out hW (by simp)) (by have := hW.size; have := HC4.out.k.size; omega) HS2.out.2 HS2.out.1 (t, num)
 have gc : w4.cell? ⟨b, k * 4 + 2, none⟩ = some (.slice aE E.length cE) := by
  rw [HIr.out.cellAt (k * 4 + 2) (by omega), (inoC_get hk hkv).2.2.1, HEv.out]
 have HCell : Hid (∀ W, Kept (Value.slice aE E.length cE).ownBlock.toList w4.drew W → W.cell? ⟨b, k * 4 + 2, none⟩ = some (.slice aE E.length cE)) := fun W hW => hW.cell gc HF.out.2
 have HFr : Hid (∀ W, Kept (Value.slice aE E.length cE).ownBlock.toList w4.drew W → W.frozen? ⟨b, k * 4 + 2, none⟩ = false) := fun W hW => by
  have r := row_keep HIr.out (F := (Value.slice aE E.length cE).ownBlock.toList) (w' := W) ⟨hW.os, hW.tape, hW.output, hW.size, hW.block⟩ (fun x hx e => by
   have : x = b := by simpa [Value.ownBlock] using e.symm
   subst this
   exact HF.out.2 hx)
  exact r.frozenAt _
 have HRF : Hid (R ∉ (Value.slice aE E.length cE).ownBlock.toList) := HF.out.1
 have HSt : Hid (∀ (W : World) (v : Value), W.cell? ⟨R, 1, none⟩ = some (.string t) → (W.setCell ⟨b, k * 4 + 2, none⟩ v).cell? ⟨R, 1, none⟩ = some (.string t)) := fun W v hW => by
  rw [cellO HRb.out]; exact hW
 go_upto_region 2 with fail
 refine wp_region_held_drew (S := fun w' => w'.cell? ⟨R, 1, none⟩ = some (.string t)) (by kernel_rfl) ?_ (fun hHeld => ?_)
 · exact HS.out
 refine tkA 0 rfl ?_
 refine tkA 1 rfl ?_
 refine tkA 2 rfl ?_
 refine tkA 3 rfl ?_
 refine tkA 5 rfl ?_
 refine tkA 6 rfl ?_
 refine tkA 7 rfl ?_
 refine tkA 8 rfl ?_
 refine wpAnyH_ready (rs := [4]) (by kernel_rfl) (by simp) ?_
 refine AllReadyH.cons rfl (fun K hK => ?_) AllReadyH.nil
 go_simp
 refine hK.out _ _ ?_ (fun hHeld => ?_)
 · exact hHeld
 clear hK K
 try simp only [Act.put, lz0, lz1, lz2, lz3, lz4, lz5]
 refine wpAnyH_ready (rs := [9]) (by kernel_rfl) (by simp) ?_
 refine AllReadyH.cons rfl (fun K hK => ?_) AllReadyH.nil
 go_simp
 refine (HPut.out _ (Kept.refl _ _).drew).mono ?_
 rintro e w5 ⟨ve, rfl, r5, k5, h5⟩
 obtain ⟨a5, c5, hv5, -⟩ := row_form r5
 have z5 := k5.cell hHeld HRF.out
 have f5 := HFr.out _ k5
 have q5 := HCell.out _ k5
 have HR5 : Hid (_ ∧ _ ∧ _) := ⟨r5, k5, h5⟩
 subst hv5
 clear r5 k5 h5
 go_wp2_with fail
 refine hK.out _ _ ?_ (fun hHeld => ?_)
 · exact z5
 clear hK K
 try simp only [Act.put, lz0, lz1, lz2, lz3, lz4, lz5]
 refine tkA 10 rfl ?_
 refine tkA 11 rfl ?_
 refine wpAnyH_ready (rs := [12]) (by kernel_rfl) (by simp) ?_
 refine AllReadyH.cons rfl (fun K hK => ?_) AllReadyH.nil
 go_simp
 refine hK.out _ _ ?_ (fun hHeld => ?_)
 · exact HSt.out _ _ z5
 clear hK K
 try simp only [Act.put, lz0, lz1, lz2, lz3, lz4, lz5]
 refine wpAnyH_done (by kernel_rfl) ?_ _
 have HC5 : Hid (Cb w0 (w5.setCell ⟨b, k * 4 + 2, none⟩ (.slice a5 (E.length + 1) c5)) B c pk v1 v2 v3 (ev.set k (.slice a5 (E.length + 1) c5)) (setE S k hk (insR ltE (S.ino[k]).ents (t, num)))) := by
  obtain ⟨r5, k5, h5⟩ := HR5.out
  have hos := HC4.out.os
  have k5' : Kept (ev[k]).ownBlock.toList w4 w5 := by rw [HEv.out]; exact ⟨k5.os, k5.tape, k5.output, k5.size, k5.block⟩
  have r5' : w5.ownsRow w0.heap.size 64 2 (.slice a5 (E.length + 1) c5) (insR ltE (S.ino[k]).ents (t, num)).length (flat (insR ltE (S.ino[k]).ents (t, num))) := by rw [HEE.out, insR_length]; exact r5
  have hb5 : ∀ x, (Value.slice a5 (E.length + 1) c5).ownBlock = some x → (ev[k]).ownBlock = some x ∨ w4.heap.size ≤ x := by rw [HEv.out]; exact h5
  have hos5 := hos.setEnt hk hkv HV1.out k5' r5' hb5
  have hBk : B ∉ (ev[k]).ownBlock.toList := fun hm => by
   rw [Option.mem_toList] at hm
   exact (HC4.out.off B (by simp)).2.2.2 _ (List.getElem_mem hkv) hm
  have hBb : B ≠ b := fun e => (HC4.out.off B (by simp)).1 (by rw [HV1.out, e]; rfl)
  have kF : Kept [] w0 w5 := HC4.out.k.trans k5' (fun x hx => by
   rw [Option.mem_toList] at hx
   exact Or.inr (hos.ent k hk hkv |>.lt x hx).1)
  have hbl : w0.heap.size ≤ b := (hos.ino.lt b (by rw [HV1.out]; rfl)).1
  refine ⟨kF.setCell (Or.inr hbl) _, ?_, hos5, ?_, HC4.out.lo, HC4.out.tab, HBd.out⟩
  ·
   rw [block_other hBb, k5'.block B (lt_of_heap HC4.out.box) hBk]
   exact HC4.out.box
  ·
   refine off_of ⟨(HC4.out.off B (by simp)).1, (HC4.out.off B (by simp)).2.1, (HC4.out.off B (by simp)).2.2.1, fun v hv => ?_⟩
   rcases List.mem_or_eq_of_mem_set hv with h1 | h1
   · exact (HC4.out.off B (by simp)).2.2.2 v h1
   ·
    subst h1
    intro e
    rcases h5 B e with h2 | h2
    · exact (HC4.out.off B (by simp)).2.2.2 _ (List.getElem_mem hkv) (by rw [HEv.out]; exact h2)
    ·
     have h3 := lt_of_heap HC4.out.box
     have h4 : w4.heap.size ≤ B := h2
     omega
 have HFm : Hid (Frm w (w5.setCell ⟨b, k * 4 + 2, none⟩ (.slice a5 (E.length + 1) c5)) v1 v2 v3 ev v1 v2 v3 (ev.set k (.slice a5 (E.length + 1) c5))) := by
  obtain ⟨r5, k5, h5⟩ := HR5.out
  have k5' : Kept (ev[k]).ownBlock.toList w4 w5 := by rw [HEv.out]; exact ⟨k5.os, k5.tape, k5.output, k5.size, k5.block⟩
  refine ⟨?_, fun Z hZ hoff => ?_⟩
  ·
   have e1 := HKw.out.size
   have e2 := k5'.size
   have e3 := (kept_set (w := w5) (B := b) (i := k * 4 + 2) (v := .slice a5 (E.length + 1) c5)).size
   omega
  ·
   have ho := hoff Z (by simp)
   have e1 := HKw.out.size
   have hZb : Z ≠ b := fun e => ho.1 (by rw [HV1.out, e]; rfl)
   have hZk : Z ∉ (ev[k]).ownBlock.toList := fun hm => by
    rw [Option.mem_toList] at hm
    exact ho.2.2.2 _ (List.getElem_mem hkv) hm
   refine ⟨by rw [block_other hZb, k5'.block Z (by omega) hZk, HKw.out.block Z hZ (by simp)], off_of ⟨ho.1, ho.2.1, ho.2.2.1, fun v hv => ?_⟩⟩
   rcases List.mem_or_eq_of_mem_set hv with h1 | h1
   · exact ho.2.2.2 v h1
   ·
    subst h1
    intro e
    rcases h5 Z e with h2 | h2
    · exact ho.2.2.2 _ (List.getElem_mem hkv) (by rw [HEv.out]; exact h2)
    ·
     have h4 : w4.heap.size ≤ Z := h2
     omega
 clear HR5 z5 f5 q5 hHeld
 go_wp2_with fail
 exact bodyPost_end (results_none rfl _ _ _) rfl ⟨rfl, _, HC5.out, HFm.out⟩
theorem Os.setMade {w : World} {H : Nat} {v1 v2 v3 : Value} {ev : List Value} {S : Sta} (h : Os w H v1 v2 v3 ev S) {i : Nat} {g c3 : Nat} (hv3 : v3 = .slice (some ⟨g, 0, none⟩) S.made.length c3) (x : Int) :
  Os (w.setCell ⟨g, i, none⟩ (.int .i64 x)) H v1 v2 v3 ev ⟨S.ino, S.opn, S.made.set i x⟩ := by
 have hg : v3.ownBlock = some g := by rw [hv3]; rfl
 have sB : Kept [g] w (w.setCell ⟨g, i, none⟩ (.int .i64 x)) := kept_set
 have no : ∀ {u : Value}, Ap u v3 → ∀ y ∈ [g], u.ownBlock ≠ some y := fun hu y hy e => by
  rw [List.mem_singleton] at hy
  subst hy
  exact hu y e hg
 refine ⟨row_keep h.ino sB (no h.a13), h.evl, fun j hj hv => row_keep (h.ent j hj hv) sB (no (h.ae _ (List.getElem_mem hv)).2.2.symm), row_keep h.opn sB (no h.a23), ?_, h.a12, h.a13, h.a23, h.ae, h.aee⟩
 have := h.mad
 subst hv3
 have r := (this.stored i (.int .i64 x)).1
 rw [← List.map_set] at r
 simpa using r
theorem Cb.setMade {w0 w : World} {B : Nat} {c : Cal} {pk v1 v2 v3 : Value} {ev : List Value} {S : Sta} (h : Cb w0 w B c pk v1 v2 v3 ev S) {i g c3 : Nat} (hv3 : v3 = .slice (some ⟨g, 0, none⟩) S.made.length c3) (x : Int) :
  Cb w0 (w.setCell ⟨g, i, none⟩ (.int .i64 x)) B c pk v1 v2 v3 ev ⟨S.ino, S.opn, S.made.set i x⟩ := by
 have hg : v3.ownBlock = some g := by rw [hv3]; rfl
 have hBg : B ≠ g := fun e => (h.off B (by simp)).2.2.1 (by rw [hg, e])
 refine ⟨h.k.setCell (Or.inr (h.os.mad.lt g hg).1) _, by rw [block_other hBg]; exact h.box, h.os.setMade hv3 x, h.off, h.lo, h.tab, ⟨h.bd.n1, h.bd.n2, by simpa using h.bd.n3, h.bd.n4, h.bd.w1, h.bd.d1, h.bd.e1⟩⟩
theorem ins_get {α : Type} (L : List α) (q : Nat) (hq : q ≤ L.length) (x : α) (i : Nat) : (L.take q ++ x :: L.drop q)[i]? = if i < q then L[i]? else if i = q then some x else L[i - 1]? := by
 have hl : (L.take q).length = q := by rw [List.length_take]; omega
 by_cases h1 : i < q
 · rw [if_pos h1, List.getElem?_append_left (by omega), List.getElem?_take_of_lt h1]
 ·
  rw [if_neg h1, List.getElem?_append_right (by omega), hl]
  by_cases h2 : i = q
  · rw [if_pos h2, h2, Nat.sub_self, List.getElem?_cons_zero]
  ·
   rw [if_neg h2]
   obtain ⟨j, hj⟩ : ∃ j, i - q = j + 1 := ⟨i - q - 1, by omega⟩
   rw [hj, List.getElem?_cons_succ, List.getElem?_drop]
   congr 1
   omega
theorem Os.putIno {w w' : World} {H : Nat} {v1 v2 v3 : Value} {ev : List Value} {S : Sta} (h : Os w H v1 v2 v3 ev S) {x : Ino} (hx : x.ents = []) {v1' : Value}
  (r : w'.ownsRow H 62 4 v1' (S.ino.length + 1) (inoC (insR ltI S.ino x) (ev.take (whereR ltI S.ino x) ++ .slice none 0 0 :: ev.drop (whereR ltI S.ino x))))
  (kk : Kept v1.ownBlock.toList w w') (hb : ∀ b, v1'.ownBlock = some b → v1.ownBlock = some b ∨ w.heap.size ≤ b) :
  Os w' H v1' v2 v3 (ev.take (whereR ltI S.ino x) ++ .slice none 0 0 :: ev.drop (whereR ltI S.ino x)) ⟨insR ltI S.ino x, S.opn, S.made⟩ := by
 obtain ⟨q, hq⟩ : ∃ q, whereR ltI S.ino x = q := ⟨_, rfl⟩
 have hql : q ≤ S.ino.length := by rw [← hq]; exact where_le
 have hqe : q ≤ ev.length := by rw [h.evl]; exact hql
 have hI : insR ltI S.ino x = S.ino.take q ++ x :: S.ino.drop q := by unfold insR; rw [hq]
 rw [hq] at r ⊢
 have no : ∀ {u : Value}, Ap v1 u → ∀ y ∈ v1.ownBlock.toList, u.ownBlock ≠ some y := fun hu y hy e => by
  rw [Option.mem_toList] at hy
  exact hu y hy e
 have newAp : ∀ {u : Value}, Ap v1 u → (∀ b, u.ownBlock = some b → b < w.heap.size) → Ap v1' u := fun hu hl b hb1 hb2 => by
  rcases hb b hb1 with h1 | h1
  · exact hu b h1 hb2
  · have := hl b hb2; omega
 have nilAp : ∀ (u : Value), Ap u (.slice none 0 0) := fun u b _ e => by cases e
 have lte : ∀ u ∈ ev, ∀ b, u.ownBlock = some b → b < w.heap.size := fun u hu b hb => by
  obtain ⟨j, hj, rfl⟩ := List.getElem_of_mem hu
  exact ((h.ent j (by rw [← h.evl]; exact hj) hj).lt b hb).2
 have mem : ∀ u ∈ ev.take q ++ .slice none 0 0 :: ev.drop q, u ∈ ev ∨ u = .slice none 0 0 := fun u hu => by
  simp only [List.mem_append, List.mem_cons] at hu
  rcases hu with h1 | h1 | h1
  · exact Or.inl (List.mem_of_mem_take h1)
  · exact Or.inr h1
  · exact Or.inl (List.mem_of_mem_drop h1)
 refine ⟨by rw [insR_length]; exact r, ?_, ?_, row_keep h.opn kk (no h.a12), row_keep h.mad kk (no h.a13), newAp h.a12 fun b hb => (h.opn.lt b hb).2, newAp h.a13 fun b hb => (h.mad.lt b hb).2, h.a23, ?_, ?_⟩
 ·
  rw [insR_length, List.length_append, List.length_cons, List.length_take, List.length_drop, ← h.evl]
  omega
 ·
  intro i hi hv
  have g1 := ins_get S.ino q hql x i
  have g2 := ins_get ev q hqe (.slice none 0 0) i
  rw [← hI] at g1
  rw [List.getElem?_eq_getElem hi] at g1
  rw [List.getElem?_eq_getElem hv] at g2
  have old : ∀ j, some (insR ltI S.ino x)[i] = S.ino[j]? → some (ev.take q ++ .slice none 0 0 :: ev.drop q)[i] = ev[j]? → w'.ownsRow H 64 2 (ev.take q ++ .slice none 0 0 :: ev.drop q)[i] ((insR ltI S.ino x)[i]).ents.length (flat ((insR ltI S.ino x)[i]).ents) := fun j e1 e2 => by
   obtain ⟨hj1, e1⟩ := List.getElem?_eq_some_iff.1 e1.symm
   obtain ⟨hj2, e2⟩ := List.getElem?_eq_some_iff.1 e2.symm
   rw [← e1, ← e2]
   exact row_keep (h.ent j hj1 hj2) kk (no (h.ae _ (List.getElem_mem hj2)).1)
  by_cases c1 : i < q
  ·
   rw [if_pos c1] at g1 g2
   exact old i g1 g2
  ·
   rw [if_neg c1] at g1 g2
   by_cases c2 : i = q
   ·
    rw [if_pos c2] at g1 g2
    rw [Option.some.inj g1, Option.some.inj g2, hx]
    exact ⟨rfl, Or.inl ⟨rfl, rfl⟩⟩
   ·
    rw [if_neg c2] at g1 g2
    exact old (i - 1) g1 g2
 ·
  intro v hv
  rcases mem v hv with h1 | rfl
  · exact ⟨newAp (h.ae v h1).1 (lte v h1), (h.ae v h1).2.1, (h.ae v h1).2.2⟩
  · exact ⟨nilAp _, nilAp _, nilAp _⟩
 ·
  have h1 := h.aee
  rw [← List.take_append_drop q ev, List.pairwise_append] at h1
  refine List.pairwise_append.2 ⟨h1.1, List.pairwise_cons.2 ⟨fun u _ => (nilAp u).symm, h1.2.1⟩, fun a ha b hb => ?_⟩
  rcases List.mem_cons.1 hb with rfl | hb
  · exact nilAp a
  · exact h1.2.2 a ha b hb
theorem Bd.putIno {S : Sta} (h : Bd S) (hn : S.ino.length < 2513169434843) {x : Ino} (hx : x.ents = []) (hd : x.data = ⟨#[]⟩) (hnum : x.num ≤ 9223372036854775807) : Bd ⟨insR ltI S.ino x, S.opn, S.made⟩ := by
 have mem : ∀ y ∈ insR ltI S.ino x, y ∈ S.ino ∨ y = x := fun y hy => by
  unfold insR at hy
  simp only [List.mem_append, List.mem_cons] at hy
  rcases hy with h1 | h1 | h1
  · exact Or.inl (List.mem_of_mem_take h1)
  · exact Or.inr h1
  · exact Or.inl (List.mem_of_mem_drop h1)
 refine ⟨?_, h.n2, h.n3, fun y hy => ?_, fun y hy => ?_, fun y hy => ?_, fun y hy => ?_⟩
 ·
  show (insR ltI S.ino x).length ≤ _
  rw [insR_length]; omega
 ·
  rcases mem y hy with h1 | rfl
  · exact h.n4 y h1
  · rw [hx]; exact Nat.zero_le _
 ·
  rcases mem y hy with h1 | rfl
  · exact h.w1 y h1
  · exact hnum
 ·
  rcases mem y hy with h1 | rfl
  · exact h.d1 y h1
  · rw [hd]; exact Nat.zero_le _
 ·
  rcases mem y hy with h1 | rfl
  · exact h.e1 y h1
  · rw [hx]; intro e he; cases he
theorem Cb.putIno {w0 w w' : World} {B : Nat} {c : Cal} {pk v1 v2 v3 : Value} {ev : List Value} {S : Sta} (h : Cb w0 w B c pk v1 v2 v3 ev S) {x : Ino} (hx : x.ents = []) {v1' : Value}
  (r : w'.ownsRow w0.heap.size 62 4 v1' (S.ino.length + 1) (inoC (insR ltI S.ino x) (ev.take (whereR ltI S.ino x) ++ .slice none 0 0 :: ev.drop (whereR ltI S.ino x))))
  (kk : Kept v1.ownBlock.toList w w') (hb : ∀ b, v1'.ownBlock = some b → v1.ownBlock = some b ∨ w.heap.size ≤ b) (hbd : Bd ⟨insR ltI S.ino x, S.opn, S.made⟩) :
  Cb w0 (w'.setCell ⟨B, 8, none⟩ v1') B c pk v1' v2 v3 (ev.take (whereR ltI S.ino x) ++ .slice none 0 0 :: ev.drop (whereR ltI S.ino x)) ⟨insR ltI S.ino x, S.opn, S.made⟩ := by
 have hB := h.off B (by simp)
 have hBl := lt_of_heap h.box
 have hBk : B ∉ v1.ownBlock.toList := fun hm => by
  rw [Option.mem_toList] at hm
  exact hB.1 hm
 have hoff : Off [B] v1' v2 v3 (ev.take (whereR ltI S.ino x) ++ .slice none 0 0 :: ev.drop (whereR ltI S.ino x)) := off_of ⟨fun e => by
  rcases hb B e with h1 | h1
  · exact hB.1 h1
  · omega, hB.2.1, hB.2.2.1, fun v hv => by
  simp only [List.mem_append, List.mem_cons] at hv
  rcases hv with h1 | rfl | h1
  · exact hB.2.2.2 v (List.mem_of_mem_take h1)
  · intro e; cases e
  · exact hB.2.2.2 v (List.mem_of_mem_drop h1)⟩
 have kF : Kept [] w0 w' := h.k.trans kk (fun y hy => by
  rw [Option.mem_toList] at hy
  exact Or.inr (h.os.ino.lt y hy).1)
 have hbox : w'.heap[B]? = some (.cells (callC c v1 v2 v3 pk) 76 (0, 0)) := (kk.block B hBl hBk).trans h.box
 refine ⟨kF.setCell (Or.inr h.lo) _, ?_, (h.os.putIno hx r kk hb).keep kept_set hoff, hoff, h.lo, h.tab, hbd⟩
 rw [block_set hbox]
 rfl
theorem Cb.new {w0 w : World} {B : Nat} {c : Cal} {pk v1 v2 v3 : Value} {ev : List Value} {S : Sta} (h : Cb w0 w B c pk v1 v2 v3 ev S) {Z : Nat} (hZ : w.heap.size ≤ Z) : Off [Z] v1 v2 v3 ev ∧ Z ≠ B := by
 refine ⟨off_of ⟨fun e => ?_, fun e => ?_, fun e => ?_, fun v hv e => ?_⟩, fun e => ?_⟩
 · have := (h.os.ino.lt Z e).2; omega
 · have := (h.os.opn.lt Z e).2; omega
 · have := (h.os.mad.lt Z e).2; omega
 ·
  obtain ⟨j, hj, rfl⟩ := List.getElem_of_mem hv
  have := ((h.os.ent j (by rw [← h.os.evl]; exact hj) hj).lt Z e).2
  omega
 · have := lt_of_heap h.box; omega
theorem Cb.beside {w0 w : World} {B : Nat} {c : Cal} {pk v1 v2 v3 : Value} {ev : List Value} {S : Sta} (h : Cb w0 w B c pk v1 v2 v3 ev S) {Z i : Nat} (hZ : w0.heap.size ≤ Z) (ho : Off [Z] v1 v2 v3 ev) (hB : Z ≠ B) (v : Value) : Cb w0 (w.setCell ⟨Z, i, none⟩ v) B c pk v1 v2 v3 ev S :=
 ⟨h.k.setCell (Or.inr hZ) _, by rw [block_other (Ne.symm hB)]; exact h.box, h.os.keep kept_set ho, h.off, h.lo, h.tab, h.bd⟩
theorem beside_putIno {w w' : World} {v1 v1' v2 v3 : Value} {ev : List Value} {q B : Nat} (kk : Kept v1.ownBlock.toList w w') (hb : ∀ b, v1'.ownBlock = some b → v1.ownBlock = some b ∨ w.heap.size ≤ b) (v : Value) {Z : Nat} (hZ : Z < w.heap.size) (hoff : Off [Z] v1 v2 v3 ev) (hB : Z ≠ B) : (w'.setCell ⟨B, 8, none⟩ v).heap[Z]? = w.heap[Z]? ∧ Off [Z] v1' v2 v3 (ev.take q ++ .slice none 0 0 :: ev.drop q) := by
 have ho := hoff Z (by simp)
 have hm : Z ∉ v1.ownBlock.toList := fun hm => by
  rw [Option.mem_toList] at hm
  exact ho.1 hm
 refine ⟨by rw [block_other hB, kk.block Z hZ hm], off_of ⟨fun e => ?_, ho.2.1, ho.2.2.1, fun u hu => ?_⟩⟩
 ·
  rcases hb Z e with h1 | h1
  · exact ho.1 h1
  · omega
 ·
  simp only [List.mem_append, List.mem_cons] at hu
  rcases hu with h1 | rfl | h1
  · exact ho.2.2.2 u (List.mem_of_mem_take h1)
  · intro e; cases e
  · exact ho.2.2.2 u (List.mem_of_mem_drop h1)
def FrB (B : Nat) (w w' : World) (v1 v2 v3 : Value) (ev : List Value) (u1 u2 u3 : Value) (eu : List Value) : Prop := w.heap.size ≤ w'.heap.size ∧ ∀ Z, Z < w.heap.size → Z ≠ B → Off [Z] v1 v2 v3 ev → w'.heap[Z]? = w.heap[Z]? ∧ Off [Z] u1 u2 u3 eu
theorem FrB.kept {B : Nat} {w w' : World} {v1 v2 v3 : Value} {ev : List Value} (k : Kept [] w w') : FrB B w w' v1 v2 v3 ev v1 v2 v3 ev := ⟨k.size, fun Z hZ _ ho => ⟨k.block Z hZ (by simp), ho⟩⟩
theorem Frm.frb {B : Nat} {w w' : World} {v1 v2 v3 u1 u2 u3 : Value} {ev eu : List Value} (h : Frm w w' v1 v2 v3 ev u1 u2 u3 eu) : FrB B w w' v1 v2 v3 ev u1 u2 u3 eu := ⟨h.1, fun Z hZ _ ho => h.2 Z hZ ho⟩
theorem FrB.trans {B : Nat} {w w' w'' : World} {v1 v2 v3 u1 u2 u3 t1 t2 t3 : Value} {ev eu et : List Value} (h : FrB B w w' v1 v2 v3 ev u1 u2 u3 eu) (h' : FrB B w' w'' u1 u2 u3 eu t1 t2 t3 et) : FrB B w w'' v1 v2 v3 ev t1 t2 t3 et :=
 ⟨Nat.le_trans h.1 h'.1, fun Z hZ hB ho => by
  obtain ⟨e1, o1⟩ := h.2 Z hZ hB ho
  obtain ⟨e2, o2⟩ := h'.2 Z (Nat.lt_of_lt_of_le hZ h.1) hB o1
  exact ⟨e2.trans e1, o2⟩⟩
theorem FrB.made {B : Nat} {w : World} {v1 v2 v3 : Value} {ev : List Value} {g i n c : Nat} (hv : v3 = .slice (some ⟨g, 0, none⟩) n c) (v : Value) : FrB B w (w.setCell ⟨g, i, none⟩ v) v1 v2 v3 ev v1 v2 v3 ev :=
 ⟨(kept_set (w := w) (B := g) (i := i) (v := v)).size, fun Z hZ _ ho => ⟨block_other (fun e => (ho Z (by simp)).2.2.1 (by rw [hv, e]; rfl)), ho⟩⟩
theorem FrB.putIno {w w' : World} {v1 v1' v2 v3 : Value} {ev : List Value} {q B : Nat} (kk : Kept v1.ownBlock.toList w w') (hb : ∀ b, v1'.ownBlock = some b → v1.ownBlock = some b ∨ w.heap.size ≤ b) (v : Value) : FrB B w (w'.setCell ⟨B, 8, none⟩ v) v1 v2 v3 ev v1' v2 v3 (ev.take q ++ .slice none 0 0 :: ev.drop q) :=
 ⟨Nat.le_trans kk.size (kept_set (w := w') (B := B) (i := 8) (v := v)).size, fun Z hZ hB ho => beside_putIno kk hb v hZ ho hB⟩
theorem FrB.since {B : Nat} {w w' : World} {v1 v2 v3 u1 u2 u3 : Value} {ev eu : List Value} (h : FrB B w w' v1 v2 v3 ev u1 u2 u3 eu) {R i : Nat} (hR : w.heap.size ≤ R) (v : Value) : FrB B w (w'.setCell ⟨R, i, none⟩ v) v1 v2 v3 ev u1 u2 u3 eu :=
 ⟨Nat.le_trans h.1 (kept_set (w := w') (B := R) (i := i) (v := v)).size, fun Z hZ hB ho => by
  obtain ⟨e1, o1⟩ := h.2 Z hZ hB ho
  exact ⟨by rw [block_other (by omega)]; exact e1, o1⟩⟩
theorem row_ents {w : World} {H : Nat} {v : Value} {E : List En} (h : w.ownsRow H 64 2 v E.length (flat E)) : ∃ aE cE, v = .slice aE E.length cE ∧ EntA w aE E ∧ E.length ≤ cE ∧ ∀ y, aE = some y → ∃ b o, y = ⟨b, o, none⟩ := by
 obtain ⟨ae, ce, ee, le, fe, re⟩ := row_form h
 refine ⟨ae, ce, ee, fun j hj => ?_, le, fun x hx => by obtain ⟨g, e, -⟩ := fe x hx; exact ⟨g, 0, e⟩⟩
 obtain ⟨f0, f1⟩ := flat_get E j _ (List.getElem?_eq_getElem hj)
 obtain ⟨ge, hge, t0⟩ := re _ _ f0
 obtain ⟨ge', hge', t1⟩ := re _ _ f1
 rw [hge] at hge'
 simp only [Option.some.injEq, Addr.mk.injEq, and_true] at hge'
 subst hge'
 exact ⟨ge, 0, hge, by rw [Nat.zero_add]; exact t0, by rw [Nat.zero_add]; exact t1⟩
theorem at_ins {L : List Ino} {x : Ino} {d : Int} {k : Nat} (h : atR L d = some k) (hx : x.num ≠ d) (hk : k < L.length) : ∃ j, atR (insR ltI L x) d = some j ∧ ∃ hj : j < (insR ltI L x).length, (insR ltI L x)[j] = L[k] := by
 have hql : whereR ltI L x ≤ L.length := where_le
 obtain ⟨q, hq⟩ : ∃ q, whereR ltI L x = q := ⟨_, rfl⟩
 rw [hq] at hql
 have hI : insR ltI L x = L.take q ++ x :: L.drop q := by unfold insR; rw [hq]
 unfold atR at h ⊢
 rw [List.findIdx?_eq_some_iff_getElem] at h
 obtain ⟨hk', h1, h2⟩ := h
 have get : ∀ i (hi : i < (insR ltI L x).length), some (insR ltI L x)[i] = if i < q then L[i]? else if i = q then some x else L[i - 1]? := fun i hi => by
  rw [← ins_get L q hql x i, ← hI, List.getElem?_eq_getElem hi]
 have hlen : (insR ltI L x).length = L.length + 1 := insR_length
 have fin : ∀ j, (j < q → j = k) → (¬ j < q → j = k + 1) → (j < q ∨ q ≤ k) → ∃ j', (insR ltI L x).findIdx? (fun x => x.num == d) = some j' ∧ ∃ hj : j' < (insR ltI L x).length, (insR ltI L x)[j'] = L[k] := fun j c1 c2 c3 => by
  have hj : j < (insR ltI L x).length := by
   rw [hlen]
   by_cases c : j < q
   · have := c1 c; omega
   · have := c2 c; omega
  have ej : (insR ltI L x)[j] = L[k] := by
   have g := get j hj
   by_cases c : j < q
   ·
    have c4 := c1 c
    subst c4
    rw [if_pos c, List.getElem?_eq_getElem hk] at g
    exact Option.some.inj g
   ·
    have c4 := c2 c
    subst c4
    rw [if_neg c, if_neg (by omega), Nat.add_sub_cancel, List.getElem?_eq_getElem hk] at g
    exact Option.some.inj g
  refine ⟨j, ?_, hj, ej⟩
  rw [List.findIdx?_eq_some_iff_getElem]
  refine ⟨hj, by rw [ej]; exact h1, fun i hij => ?_⟩
  have hi : i < (insR ltI L x).length := by omega
  have g := get i hi
  by_cases c : i < q
  ·
   have hik : i < k := by
    by_cases c' : j < q
    · have := c1 c'; omega
    · have := c2 c'; omega
   rw [if_pos c, List.getElem?_eq_getElem (by omega)] at g
   rw [Option.some.inj g]
   exact h2 i hik
  ·
   rw [if_neg c] at g
   have hjq : ¬ j < q := by omega
   have := c2 hjq
   by_cases c' : i = q
   ·
    rw [if_pos c'] at g
    rw [Option.some.inj g]
    simpa using hx
   ·
    rw [if_neg c', List.getElem?_eq_getElem (by omega)] at g
    rw [Option.some.inj g]
    exact h2 (i - 1) (by omega)
 by_cases c : k < q
 · exact fin k (fun _ => rfl) (fun h => absurd c h) (Or.inl c)
 · exact fin (k + 1) (fun h => by omega) (fun _ => rfl) (Or.inr (by omega))
end Go.Proofs.YtffncojcnbhblaaGreatDoor
