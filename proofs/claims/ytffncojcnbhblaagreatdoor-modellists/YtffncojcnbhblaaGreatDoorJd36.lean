/-
  Joined of my texts Yo Yp.
-/
import Derived.Test.YtffncojcnbhblaaGreatDoorJd35
import Derived.Test.YtffncojcnbhblaaGreatDoorJd21
import Derived.Test.YtffncojcnbhblaaGreatDoorTk
set_option linter.unusedVariables false
set_option linter.unusedSimpArgs false
set_option maxRecDepth 100000
set_option maxHeartbeats 8000000
namespace Go.Proofs.YtffncojcnbhblaaGreatDoor
open List renaming setIfInBounds_toArray → lz0, set_cons_zero → lz1, set_cons_succ → lz2, getElem_toArray → lz3, getElem_cons_zero → lz4, getElem_cons_succ → lz5
open Go.RowKit
theorem x5_kept {w w' : World} {X b i b2 i2 : Nat} {u0 u1 u2 u3 u4 : Value} (h : w.cell? ⟨X, 0, none⟩ = some u0 ∧ w.cell? ⟨X, 1, none⟩ = some u1 ∧ w.cell? ⟨X, 2, none⟩ = some u2 ∧ w.cell? ⟨b, i, none⟩ = some u3 ∧ w.cell? ⟨b2, i2, none⟩ = some u4) (k : Kept [] w w') : w'.cell? ⟨X, 0, none⟩ = some u0 ∧ w'.cell? ⟨X, 1, none⟩ = some u1 ∧ w'.cell? ⟨X, 2, none⟩ = some u2 ∧ w'.cell? ⟨b, i, none⟩ = some u3 ∧ w'.cell? ⟨b2, i2, none⟩ = some u4 :=
 ⟨k.cell h.1 (by simp), k.cell h.2.1 (by simp), k.cell h.2.2.1 (by simp), k.cell h.2.2.2.1 (by simp), k.cell h.2.2.2.2 (by simp)⟩
theorem ino_cells {w : World} {H g n c : Nat} {L : List Ino} {ev : List Value} (h : w.ownsRow H 62 4 (.slice (some ⟨g, 0, none⟩) n c) L.length (inoC L ev)) {j : Nat} (hj : j < L.length) (hv : j < ev.length) :
  w.cell? ⟨g, j * 4, none⟩ = some (.int .i64 (L[j]).num) ∧ w.cell? ⟨g, j * 4 + 1, none⟩ = some (.bool (L[j]).dir) ∧ w.cell? ⟨g, j * 4 + 2, none⟩ = some ev[j] ∧ w.cell? ⟨g, j * 4 + 3, none⟩ = some (.string (L[j]).data) := by
 obtain ⟨a, c', e, -, -, r⟩ := row_form h
 simp only [Value.slice.injEq] at e
 obtain ⟨rfl, -, -⟩ := e
 obtain ⟨q0, q1, q2, q3⟩ := inoC_get hj hv
 have f : ∀ j u, (inoC L ev)[j]? = some u → w.cell? ⟨g, j, none⟩ = some u := fun j u hu => by
  obtain ⟨g', hg', p⟩ := r j u hu
  simp only [Option.some.injEq, Addr.mk.injEq, and_true] at hg'
  subst hg'
  exact p
 exact ⟨f _ _ q0, f _ _ q1, f _ _ q2, f _ _ q3⟩
theorem r_make1 {w0 w : World} {X g g3 c1 c2 c3 : Nat} {a2 : Option Addr} {ev : List Value} {S : Sta} (h : Hc w0 w X (.slice (some ⟨g, 0, none⟩) S.ino.length c1) (.slice a2 S.opn.length c2) (.slice (some ⟨g3, 0, none⟩) S.made.length c3) ev S) (hb : Bd S) (hc : Clo S.ino) (hz : ∀ x ∈ S.ino, ∀ e ∈ x.ents, e.2 ≠ 0) (c : Cal) {i : Nat} (hci : c.core = (i : Int)) (hil : i < S.made.length) {gm : Int} (hgm : S.made[i] = gm) (hg0 : 0 ≤ gm) (hg1 : gm < 32) (hi8 : i < 8) (hab : ∀ x ∈ S.ino, x.num < 2 + (i : Int) + 8 * gm)
  {d : Int} {t : ByteArray} (hsp : spotR S.ino c.path = .ok (d, t)) {k : Nat} (hak : atR S.ino d = some k) (hk : k < S.ino.length) {E : List En} (hE : (S.ino[k]).ents = E) (ht : t.size ≤ 12) (hsz : ∀ e ∈ E, e.1.size ≤ 12 ∧ e.1.toList ≠ []) (hno : ∀ e ∈ E, e.1 ≠ t) (hen : entryR S.ino d t = 0) {bt : Nat} (hbt : bkt t = (bt : Int)) (hroom : ¬ 4 ≤ inB E bt) :
  Calls Tryz.prog 61 #[.pointer (some ⟨X, 0, none⟩), .agg #[.int .i64 c.kind, .int .i64 c.core, .int .i64 c.fd, .int .i64 c.off, .int .i64 c.num, .string c.path, .string c.path2, .string c.data]] w fun e w' => e = .returned (.agg #[.int .i64 0, .int .i64 0, .int .i64 0, .bool false, .string ⟨#[]⟩, .slice none 0 0]) ∧ ∃ a1' c1' ev'', Hc w0 w' X (.slice a1' (S.ino.length + 1) c1') (.slice a2 S.opn.length c2) (.slice (some ⟨g3, 0, none⟩) S.made.length c3) ev'' ⟨(setE ⟨S.ino, S.opn, S.made.set i (gm + 1)⟩ k hk (insR ltE E (t, (2 + (i : Int) + 8 * gm)))).ino ++ [⟨(2 + (i : Int) + 8 * gm), c.kind == 1, [], ⟨#[]⟩⟩], S.opn, S.made.set i (gm + 1)⟩ ∧ Kept [g, g3, X] w w' := by
 rw [hci]
 obtain ⟨W1, Z, HW, HKW, HZb⟩ := twoY w #[.int .i64 c.kind, .int .i64 (i : Int), .int .i64 c.fd, .int .i64 c.off, .int .i64 c.num, .string c.path, .string c.path2, .string c.data] #[.int .i64 0, .int .i64 0, .int .i64 0, .bool false, .string ⟨#[]⟩, .slice none 0 0] 35 31
 have HXZ : Hid (X < Z ∧ w.heap.size = Z ∧ w0.heap.size ≤ Z + 1 ∧ Off [Z + 1] (.slice (some ⟨g, 0, none⟩) S.ino.length c1) (.slice a2 S.opn.length c2) (.slice (some ⟨g3, 0, none⟩) S.made.length c3) ev) := by
  have h1 := lt_of_heap h.box
  have h2 := HW.out.2
  have h3 := h.k.size
  exact ⟨by omega, h2, by omega, off_of (h.os.lt (by omega))⟩
 have HZG1 : Hid (Z + 1 ≠ g ∧ Z + 1 ≠ g3) := by
  have h1 := (h.os.ino.lt g rfl).2
  have h2 := (h.os.mad.lt g3 rfl).2
  have h3 := HW.out.2
  exact ⟨by omega, by omega⟩
 have HH : Hid (_) := h.kept HKW.out
 obtain ⟨p, e1, e2, e3, hsv, -⟩ := HH.out.os.sv hb
 simp only [Value.slice.injEq, true_and] at e1 e2 e3
 obtain ⟨pa1, pc1, pa2, pc2, pa3, pc3⟩ := p
 dsimp only at e1 e2 e3
 obtain ⟨rfl, rfl⟩ := e1
 obtain ⟨rfl, rfl⟩ := e2
 obtain ⟨rfl, rfl⟩ := e3
 have HPa : Hid (∀ W, Kept [] W1 W → Calls Tryz.prog 89 #[.agg #[.slice (some ⟨g, 0, none⟩) S.ino.length c1, .slice a2 S.opn.length c2, .slice (some ⟨g3, 0, none⟩) S.made.length c3], .string c.path] W fun e w' => e = .returned (.tuple #[.int .i64 d, .string t, .int .i64 0]) ∧ Kept [] W w') := fun W kW => by
  exact r_parent (hsv.kept kW) hc hz c.path hsp
 have HEy : Hid (∀ W, Kept [] W1 W → Calls Tryz.prog 90 #[.agg #[.slice (some ⟨g, 0, none⟩) S.ino.length c1, .slice a2 S.opn.length c2, .slice (some ⟨g3, 0, none⟩) S.made.length c3], .int .i64 d, .string t] W fun e w' => e = .returned (.int .i64 0) ∧ Kept [] W w') := fun W kW => by
  have := r_entry (hsv.kept kW) d t
  rw [hen] at this
  exact this
 have HFu : Hid (∀ W, Kept [] W1 W → Calls Tryz.prog 91 #[.agg #[.slice (some ⟨g, 0, none⟩) S.ino.length c1, .slice a2 S.opn.length c2, .slice (some ⟨g3, 0, none⟩) S.made.length c3], .int .i64 d, .string t, .string ⟨#[]⟩] W fun e w' => e = .returned (.bool false) ∧ Kept [] W w') := fun W kW => by
  have := r_full (hsv.kept kW) hak (x := S.ino[k]) (List.getElem?_eq_getElem hk) t ht hbt (by rw [hE]; exact hsz)
  rw [hE, decide_eq_false hroom] at this
  exact this
 obtain ⟨b', o', ha, qm⟩ := hsv.mad i hil
 simp only [Option.some.injEq, Addr.mk.injEq, and_true] at ha
 obtain ⟨rfl, rfl⟩ := ha
 rw [Nat.zero_add] at qm
 replace qm : W1.cell? ⟨g3, i, none⟩ = some (.int .i64 gm) := by rw [qm]; exact congrArg _ (congrArg _ hgm)
 have i0 : (0 : Int) ≤ (i : Int) := by omega
 have i1 : (i : Int) < (S.made.length : Int) := by omega
 have m32 : ¬ (32 : Int) ≤ gm := by omega
 have m32b : decide ((32 : Int) ≤ gm) = false := decide_eq_false m32
 have HC0 : Hid (W1.cell? ⟨X, 0, none⟩ = some (.slice (some ⟨g, 0, none⟩) S.ino.length c1) ∧ W1.cell? ⟨X, 1, none⟩ = some (.slice a2 S.opn.length c2) ∧ W1.cell? ⟨X, 2, none⟩ = some (.slice (some ⟨g3, 0, none⟩) S.made.length c3) ∧ W1.cell? ⟨Z, 5, none⟩ = some (.string c.path)) := ⟨cellB HH.out.box, cellB HH.out.box, cellB HH.out.box, cellB HZb.out.1⟩
 have HC5 : Hid (W1.cell? ⟨X, 0, none⟩ = some (.slice (some ⟨g, 0, none⟩) S.ino.length c1) ∧ W1.cell? ⟨X, 1, none⟩ = some (.slice a2 S.opn.length c2) ∧ W1.cell? ⟨X, 2, none⟩ = some (.slice (some ⟨g3, 0, none⟩) S.made.length c3) ∧ W1.cell? ⟨Z, 1, none⟩ = some (.int .i64 (i : Int)) ∧ W1.cell? ⟨g3, i, none⟩ = some (.int .i64 gm)) := ⟨HC0.out.1, HC0.out.2.1, HC0.out.2.2.1, cellB HZb.out.1, qm⟩
 have HC4 : Hid (W1.cell? ⟨X, 0, none⟩ = some (.slice (some ⟨g, 0, none⟩) S.ino.length c1) ∧ W1.cell? ⟨X, 1, none⟩ = some (.slice a2 S.opn.length c2) ∧ W1.cell? ⟨X, 2, none⟩ = some (.slice (some ⟨g3, 0, none⟩) S.made.length c3) ∧ W1.cell? ⟨Z, 1, none⟩ = some (.int .i64 (i : Int))) := ⟨HC0.out.1, HC0.out.2.1, HC0.out.2.2.1, cellB HZb.out.1⟩
 have hgX : X ≠ g3 := fun e => (HH.out.off X (by simp)).2.2.1 (by rw [e]; rfl)
 have hgZ : Z ≠ g3 := by have := (h.os.mad.lt g3 rfl).2; have := HW.out.2; omega
 have HSt : Hid (∀ (w : World) (v : Value), (w.cell? ⟨X, 0, none⟩ = some (.slice (some ⟨g, 0, none⟩) S.ino.length c1) ∧ w.cell? ⟨X, 1, none⟩ = some (.slice a2 S.opn.length c2) ∧ w.cell? ⟨X, 2, none⟩ = some (.slice (some ⟨g3, 0, none⟩) S.made.length c3) ∧ w.cell? ⟨Z, 1, none⟩ = some (.int .i64 (i : Int))) → ((w.setCell ⟨g3, i, none⟩ v).cell? ⟨X, 0, none⟩ = some (.slice (some ⟨g, 0, none⟩) S.ino.length c1) ∧ (w.setCell ⟨g3, i, none⟩ v).cell? ⟨X, 1, none⟩ = some (.slice a2 S.opn.length c2) ∧ (w.setCell ⟨g3, i, none⟩ v).cell? ⟨X, 2, none⟩ = some (.slice (some ⟨g3, 0, none⟩) S.made.length c3) ∧ (w.setCell ⟨g3, i, none⟩ v).cell? ⟨Z, 1, none⟩ = some (.int .i64 (i : Int)))) := fun w v hs => by
  have kk : Kept [g3] w (w.setCell ⟨g3, i, none⟩ v) := kept_set
  exact ⟨kk.cell hs.1 (by simpa using hgX), kk.cell hs.2.1 (by simpa using hgX), kk.cell hs.2.2.1 (by simpa using hgX), kk.cell hs.2.2.2 (by simpa using hgZ)⟩
 have HPut : Hid (∀ W, Hc w0 W X (.slice (some ⟨g, 0, none⟩) S.ino.length c1) (.slice a2 S.opn.length c2) (.slice (some ⟨g3, 0, none⟩) S.made.length c3) ev ⟨S.ino, S.opn, S.made.set i (gm + 1)⟩ → Calls Tryz.prog 92 #[.pointer (some ⟨X, 0, none⟩), .int .i64 d, .string t, .int .i64 (2 + (i : Int) + 8 * gm)] W fun e w' => e = .returned (.tuple #[]) ∧ ∃ ev', Hc w0 w' X (.slice (some ⟨g, 0, none⟩) S.ino.length c1) (.slice a2 S.opn.length c2) (.slice (some ⟨g3, 0, none⟩) S.made.length c3) ev' (setE ⟨S.ino, S.opn, S.made.set i (gm + 1)⟩ k hk (insR ltE E (t, 2 + (i : Int) + 8 * gm))) ∧ Kept [g] W w' ∧ ∀ Y, Y < W.heap.size → Off [Y] (.slice (some ⟨g, 0, none⟩) S.ino.length c1) (.slice a2 S.opn.length c2) (.slice (some ⟨g3, 0, none⟩) S.made.length c3) ev → Off [Y] (.slice (some ⟨g, 0, none⟩) S.ino.length c1) (.slice a2 S.opn.length c2) (.slice (some ⟨g3, 0, none⟩) S.made.length c3) ev') := fun W hW => by
  have hb' : Bd ⟨S.ino, S.opn, S.made.set i (gm + 1)⟩ := ⟨hb.n1, hb.n2, by rw [List.length_set]; exact hb.n3, hb.n4, hb.w1, hb.d1, hb.e1⟩
  have := r_put (S := ⟨S.ino, S.opn, S.made.set i (gm + 1)⟩) (a3 := some ⟨g3, 0, none⟩) (c3 := c3) (w0 := w0) (w := W) (X := X) (g := g) (c1 := c1) (c2 := c2) (a2 := a2) (ev := ev) (by simpa only [List.length_set] using hW) hb' hak hk hE t (2 + (i : Int) + 8 * gm) ht (fun e he => (hsz e he).1) hno
  simpa only [List.length_set] using this
 have HZG : Hid (Z ≠ g) := by have := (h.os.ino.lt g rfl).2; have := HW.out.2; show Z ≠ g; omega
 have HAb : Hid (S.ino.length ≤ 2513169434843 ∧ ∀ x ∈ S.ino, x.num < (2 + (i : Int) + 8 * gm)) := ⟨hb.n1, hab⟩
 have HKW1 : Hid (Kept [] W1 W1) := Kept.refl _ _
 clear h hb hc hz hsp hak hE ht hsz hno hen hbt hroom hsv qm hci hgm hab m32
 go_enter Tryz.func61, Tryz.ntmps61
 go_upto_region 1 with fail
 rw [HW.out.1, HW.out.2]
 clear HW
 have HKd4 : Hid (Kept [] W1 W1.drew) := HKW1.out.trans (Kept.refl [] W1).drew (by simp)
 have HD4 : Hid (_) := x4_kept HC0.out HKd4.out
 go_region_held3 (fun w' => w'.cell? ⟨X, 0, none⟩ = some (.slice (some ⟨g, 0, none⟩) S.ino.length c1) ∧ w'.cell? ⟨X, 1, none⟩ = some (.slice a2 S.opn.length c2) ∧ w'.cell? ⟨X, 2, none⟩ = some (.slice (some ⟨g3, 0, none⟩) S.made.length c3) ∧ w'.cell? ⟨Z, 5, none⟩ = some (.string c.path)) (first | exact HD4.out | exact z4 | go_keep)
  (first
   | (go_at_call 89; refine (HPa.out _ HKd4.out).mono ?_; rintro e w2 ⟨rfl, k4⟩; have z4 := x4_kept HD4.out k4))
 have HKw2 : Hid (Kept [] W1 w2) := HKd4.out.trans k4 (by simp)
 clear z4 k4 HD4 HKd4
 obtain ⟨x0, x1, x2, -⟩ := x4_kept HC0.out HKw2.out
 go_wp2_with fail
 refine (HEy.out _ HKw2.out).mono ?_
 rintro e w3 ⟨rfl, k3⟩
 have HKw3 : Hid (Kept [] W1 w3) := HKw2.out.trans k3 (by simp)
 clear x0 x1 x2 k3
 go_upto_region 6 with fail
 have HKd6 : Hid (Kept [] W1 w3.drew) := HKw3.out.trans (Kept.refl [] w3).drew (by simp)
 have HD6 : Hid (_) := x5_kept HC5.out HKd6.out
 go_region_held3 (fun w' => w'.cell? ⟨X, 0, none⟩ = some (.slice (some ⟨g, 0, none⟩) S.ino.length c1) ∧ w'.cell? ⟨X, 1, none⟩ = some (.slice a2 S.opn.length c2) ∧ w'.cell? ⟨X, 2, none⟩ = some (.slice (some ⟨g3, 0, none⟩) S.made.length c3) ∧ w'.cell? ⟨Z, 1, none⟩ = some (.int .i64 (i : Int)) ∧ w'.cell? ⟨g3, i, none⟩ = some (.int .i64 gm)) (first | exact HD6.out | exact z6 | go_keep)
  (first
   | (go_at_call 91; refine (HFu.out _ HKd6.out).mono ?_; rintro e w4 ⟨rfl, k4⟩; have z6 := x5_kept HD6.out k4))
 have HKw4 : Hid (Kept [] W1 w4) := HKd6.out.trans k4 (by simp)
 clear z6 k4 HD6 HKd6
 obtain ⟨x0, x1, x2, y1, qm⟩ := x5_kept HC5.out HKw4.out
 go_upto_region 8 with fail
 go_quiet (fail)
 go_wp2
 obtain ⟨w5, hw5⟩ : ∃ w5, w4.drewN nq = w5 := ⟨_, rfl⟩
 have HKw5 : Hid (Kept [] W1 w5) := by rw [← hw5]; exact HKw4.out.drewN _
 rw [hw5]
 clear hw5 x0 x1 x2 y1 qm
 have HX4 : Hid (_) := x4_kept HC4.out (HKw5.out.trans (Kept.refl [] w5).drew (by simp))
 have qm : w5.drew.cell? ⟨g3, i, none⟩ = some (.int .i64 gm) := (x5_kept HC5.out (HKw5.out.trans (Kept.refl [] w5).drew (by simp))).2.2.2.2
 have hfz : w5.drew.frozen? ⟨g3, i, none⟩ = false := (row_keep HH.out.os.mad (HKw5.out.trans (Kept.refl [] w5).drew (by simp)) (by simp)).frozenAt _
 refine wp_region_held_drew (S := fun w' => w'.cell? ⟨X, 0, none⟩ = some (.slice (some ⟨g, 0, none⟩) S.ino.length c1) ∧ w'.cell? ⟨X, 1, none⟩ = some (.slice a2 S.opn.length c2) ∧ w'.cell? ⟨X, 2, none⟩ = some (.slice (some ⟨g3, 0, none⟩) S.made.length c3) ∧ w'.cell? ⟨Z, 1, none⟩ = some (.int .i64 (i : Int))) (by kernel_rfl) ?_ (fun hHeld => ?_)
 · exact HX4.out
 refine wpAnyH_take (i := 0) (v := ?vq0) rfl (by kernel_rfl) (by kernel_rfl) (by kernel_rfl) (fun _ _ _ h => h) (Or.inl ⟨by rfl, ?hq0⟩) (by assumption) ?_
 case hq0 =>
  intro w hSw
  (try dsimp only at hSw)
  go_simp
  try with_reducible rfl
 try simp only [Act.put, lz0, lz1, lz2, lz3, lz4, lz5]
 refine wpAnyH_take (i := 1) (v := ?vq1) rfl (by kernel_rfl) (by kernel_rfl) (by kernel_rfl) (fun _ _ _ h => h) (Or.inl ⟨by rfl, ?hq1⟩) (by assumption) ?_
 case hq1 =>
  intro w hSw
  (try dsimp only at hSw)
  go_simp
  try with_reducible rfl
 try simp only [Act.put, lz0, lz1, lz2, lz3, lz4, lz5]
 refine wpAnyH_take (i := 2) (v := ?vq2) rfl (by kernel_rfl) (by kernel_rfl) (by kernel_rfl) (fun _ _ _ h => h) (Or.inl ⟨by rfl, ?hq2⟩) (by assumption) ?_
 case hq2 =>
  intro w hSw
  (try dsimp only at hSw)
  go_simp
  try with_reducible rfl
 try simp only [Act.put, lz0, lz1, lz2, lz3, lz4, lz5]
 refine wpAnyH_take (i := 3) (v := ?vq3) rfl (by kernel_rfl) (by kernel_rfl) (by kernel_rfl) (fun _ _ _ h => h) (Or.inl ⟨by rfl, ?hq3⟩) (by assumption) ?_
 case hq3 =>
  intro w hSw
  (try dsimp only at hSw)
  go_simp
  try with_reducible rfl
 try simp only [Act.put, lz0, lz1, lz2, lz3, lz4, lz5]
 refine wpAnyH_take (i := 4) (v := ?vq4) rfl (by kernel_rfl) (by kernel_rfl) (by kernel_rfl) (fun _ _ _ h => h) (Or.inl ⟨by rfl, ?hq4⟩) (by assumption) ?_
 case hq4 =>
  intro w hSw
  (try dsimp only at hSw)
  go_simp
  try with_reducible rfl
 try simp only [Act.put, lz0, lz1, lz2, lz3, lz4, lz5]
 refine wpAnyH_take (i := 5) (v := ?vq5) rfl (by kernel_rfl) (by kernel_rfl) (by kernel_rfl) (fun _ _ _ h => h) (Or.inl ⟨by rfl, ?hq5⟩) (by assumption) ?_
 case hq5 =>
  intro w hSw
  (try dsimp only at hSw)
  go_simp
  try with_reducible rfl
 try simp only [Act.put, lz0, lz1, lz2, lz3, lz4, lz5]
 refine wpAnyH_take (i := 6) (v := ?vq6) rfl (by kernel_rfl) (by kernel_rfl) (by kernel_rfl) (fun _ _ _ h => h) (Or.inl ⟨by rfl, ?hq6⟩) (by assumption) ?_
 case hq6 =>
  intro w hSw
  (try dsimp only at hSw)
  go_simp
  try with_reducible rfl
 try simp only [Act.put, lz0, lz1, lz2, lz3, lz4, lz5]
 refine wpAnyH_ready (rs := [7]) (by kernel_rfl) (by simp) ?_
 refine AllReadyH.cons rfl (fun K hK => ?_) AllReadyH.nil
 go_simp
 refine hK.out _ _ ?_ (fun hHeld => ?_)
 · exact hHeld
 clear hK K
 try simp only [Act.put, lz0, lz1, lz2, lz3, lz4, lz5]
 refine wpAnyH_take (i := 8) (v := ?vq8) rfl (by kernel_rfl) (by kernel_rfl) (by kernel_rfl) (fun _ _ _ h => h) (Or.inl ⟨by rfl, ?hq8⟩) (by assumption) ?_
 case hq8 =>
  intro w hSw
  (try dsimp only at hSw)
  go_simp
  try with_reducible rfl
 try simp only [Act.put, lz0, lz1, lz2, lz3, lz4, lz5]
 refine wpAnyH_take (i := 9) (v := ?vq9) rfl (by kernel_rfl) (by kernel_rfl) (by kernel_rfl) (fun _ _ _ h => h) (Or.inl ⟨by rfl, ?hq9⟩) (by assumption) ?_
 case hq9 =>
  intro w hSw
  (try dsimp only at hSw)
  go_simp
  try with_reducible rfl
 try simp only [Act.put, lz0, lz1, lz2, lz3, lz4, lz5]
 refine wpAnyH_ready (rs := [10]) (by kernel_rfl) (by simp) ?_
 refine AllReadyH.cons rfl (fun K hK => ?_) AllReadyH.nil
 go_simp
 refine hK.out _ _ ?_ (fun hHeld => ?_)
 · exact HSt.out _ _ hHeld
 clear hK K
 try simp only [Act.put, lz0, lz1, lz2, lz3, lz4, lz5]
 refine wpAnyH_done (by kernel_rfl) ?_ _
 have hwr : IntKind.i64.wrap (gm + 1) = gm + 1 := by rw [IntKind.wrap_i64]; omega
 rw [hwr]
 have H6 : Hid (_) := ((HH.out.kept HKw5.out).mad (i := i) (gm + 1)).kept (Kept.refl [] _).drew
 have HK6 : Hid (Kept [g3] W1 (w5.setCell ⟨g3, i, none⟩ (.int .i64 (gm + 1))).drew) := (((HKw5.out.mono (by simp)).setCell (Or.inl (by simp)) _).drew)
 obtain ⟨w6, hw6⟩ : ∃ w6, (w5.setCell ⟨g3, i, none⟩ (.int .i64 (gm + 1))).drew = w6 := ⟨_, rfl⟩
 rw [hw6] at H6 HK6 ⊢
 clear hw6 hwr HX4 qm hfz
 go_wp2_with fail
 refine (HPut.out _ H6.out).mono ?_
 rintro e w7 ⟨rfl, ev', h7, k7, ho7⟩
 have hZg3 : Z ≠ g := HZG.out
 have HK7 : Hid (Kept [g, g3] W1 w7) := (HK6.out.mono (by simp)).trans k7 (fun x hx => Or.inl (by simp at hx; simp [hx]))
 have z0 : w7.cell? ⟨Z, 0, none⟩ = some (.int .i64 c.kind) := HK7.out.cell (cellB HZb.out.1) (by simp; exact ⟨hZg3, hgZ⟩)
 go_upto_region 12 with fail
 obtain ⟨B, hB⟩ : ∃ B, w7.heap.size = B := ⟨_, rfl⟩
 obtain ⟨dr, hdr⟩ : ∃ dr : Bool, (c.kind == 1) = dr := ⟨_, rfl⟩
 rw [hB, hdr]
 obtain ⟨W8, hW8⟩ : ∃ W8, w7.alloc (.cells #[.int .i64 (2 + (i : Int) + 8 * gm), .bool dr, .slice none 0 0, .string ⟨#[]⟩] 62) = W8 := ⟨_, rfl⟩
 rw [hW8]
 have HK8 : Hid (Kept [] w7 W8) := by rw [← hW8]; exact (Kept.refl [] w7).alloc _
 have HB8 : Hid (W8.heap[B]? = some (.cells #[.int .i64 (2 + (i : Int) + 8 * gm), .bool dr, .slice none 0 0, .string ⟨#[]⟩] 62 (0, 0))) := by
  show _ = _
  rw [← hW8, ← hB]
  exact Go.heap_alloc_new _ _
 obtain ⟨S7, hS7⟩ : ∃ S7, setE ⟨S.ino, S.opn, S.made.set i (gm + 1)⟩ k hk (insR ltE E (t, (2 + (i : Int) + 8 * gm))) = S7 := ⟨_, rfl⟩
 have HS7 : Hid (S7.ino.length = S.ino.length ∧ (∀ x ∈ S7.ino, x.num < (2 + (i : Int) + 8 * gm)) ∧ S.ino.length ≤ 2513169434843) := by
  rw [← hS7]
  refine ⟨by simp, fun x hx => ?_, HAb.out.1⟩
  rcases List.mem_or_eq_of_mem_set hx with hx | hx
  · exact HAb.out.2 x hx
  ·
   rw [hx]
   exact (HAb.out.2 (S.ino[k]) (List.getElem_mem hk) : (S.ino[k]).num < _)
 have HD : Hid (_) := hS7
 rw [hS7] at h7
 have H8 : Hid (_) := h7.kept HK8.out
 have HR7 : Hid (_ ∧ _ ∧ _ ∧ _) := ⟨hdr, hB, k7, ho7⟩
 clear hB hdr hW8 hS7 h7 k7 ho7 z0 HPut
 go_wp2_with fail
 go_loopw [10, 11, 12] (fun u dn i' wr => ∃ (n : Nat) (ua : Option Addr) (uc : Nat), u = .slice ua n uc ∧ dn = .bool false ∧ i' = .int .i64 (n : Int) ∧ n ≤ S.ino.length ∧ Hid (wr.ownsRow W8.heap.size 62 4 (.slice ua n uc) n (inoC (S7.ino.take n) (ev'.take n)) ∧ Kept [] W8 wr)) (fun _ _ i' _ => (S.ino.length - intOf i').toNat)
 case atStart => exact ⟨0, none, 0, rfl, rfl, rfl, by omega, World.ownsRow_nil _ _ _ _, Kept.refl _ _⟩
 case round =>
  obtain ⟨n, ua, uc, rfl, rfl, rfl, hn, HJ⟩ := hrel
  have x0 := HJ.out.2.cell (cellB H8.out.box : W8.cell? ⟨X, 0, none⟩ = some (.slice (some ⟨g, 0, none⟩) S.ino.length c1)) (by simp)
  have hl : (S7.ino.take n).length = n := by rw [List.length_take]; have := HS7.out.1; omega
  by_cases hlt : n < S.ino.length
  ·
   have i0 : (0 : Int) ≤ (n : Int) := by omega
   have i1 : (n : Int) < (S.ino.length : Int) := by omega
   have h7l : n < S7.ino.length := by rw [HS7.out.1]; exact hlt
   have hvl : n < ev'.length := by rw [H8.out.os.evl]; exact h7l
   obtain ⟨e0, e1, e2, e3⟩ := ino_cells (row_keep H8.out.os.ino HJ.out.2 (by simp)) h7l hvl
   have hgt : ¬ (2 + (i : Int) + 8 * gm) < (S7.ino[n]).num := by have := HS7.out.2.1 _ (List.getElem_mem h7l); omega
   have hgb : decide ((2 + (i : Int) + 8 * gm) < (S7.ino[n]).num) = false := decide_eq_false hgt
   have hj1 : wr.ownsRow W8.heap.size 62 4 (.slice ua (S7.ino.take n).length uc) (S7.ino.take n).length (inoC (S7.ino.take n) (ev'.take n)) := by rw [hl]; exact HJ.out.1
   have HLt : Hid (n < S.ino.length) := hlt
   have hbn : (n : Int) ≤ 2513169434843 := by have := HS7.out.2.2; omega
   obtain ⟨ua4, uc4, w4, hr4, r4, k4⟩ := ino_more (W := W8) (by rw [List.length_take, List.length_take, H8.out.os.evl]) hj1 HJ.out.2 S7.ino[n] (ve := ev'[n]) (row_one (H8.out.os.ent n h7l hvl)) (by have := HS7.out.2.2; omega) 23
   rw [List.length_append, hl] at r4
   rw [hl] at hr4
   rw [← List.take_succ_eq_append_getElem h7l, ← List.take_succ_eq_append_getElem hvl] at r4
   have HA4 : Hid (_) := hr4
   have HR4 : Hid (_ ∧ _) := ⟨r4, k4⟩
   generalize ev'[n] = ve at *
   generalize S7.ino[n] = y at *
   obtain ⟨yn, yd, ye, yt⟩ := y
   dsimp only at *
   clear hr4 r4 k4 HJ hl h7l hvl hj1
   go_wp2_with (at_builtin; refine wpList_append_run _ rfl _ _ 23 23 rfl _ _ rfl rfl _ _ HA4.out ?_)
   go_roundw
   case rel => exact ⟨n + 1, ua4, uc4, rfl, rfl, by go_num, HLt.out, HR4.out.1, HR4.out.2⟩
   case measure => have := HLt.out; simp [intOf]; omega
  ·
   have i1 : ¬ (n : Int) < (S.ino.length : Int) := by omega
   have en : n = S.ino.length := by omega
   subst en
   have HTk : Hid (S7.ino.take S.ino.length = S7.ino ∧ ev'.take S.ino.length = ev') := by
    have h1 := HS7.out.1
    have h2 := H8.out.os.evl
    exact ⟨List.take_of_length_le (by omega), List.take_of_length_le (by omega)⟩
   have hj1 : wr.ownsRow W8.heap.size 62 4 (.slice ua S7.ino.length uc) S7.ino.length (inoC S7.ino ev') := by
    have := HJ.out.1
    rw [HTk.out.1, HTk.out.2] at this
    rw [HS7.out.1]
    exact this
   obtain ⟨ua4, uc4, w4, hr4, r4, k4⟩ := ino_more H8.out.os.evl hj1 HJ.out.2 ⟨(2 + (i : Int) + 8 * gm), dr, [], ⟨#[]⟩⟩ (ve := .slice none 0 0) rfl (by have := HS7.out; omega) 23
   dsimp only at hr4
   rw [HS7.out.1] at hr4 r4
   have HA4 : Hid (_) := hr4
   have b0 := HJ.out.2.cell (cellB HB8.out : W8.cell? ⟨B, 0, none⟩ = some (.int .i64 (2 + (i : Int) + 8 * gm))) (by simp)
   have b1 := HJ.out.2.cell (cellB HB8.out : W8.cell? ⟨B, 1, none⟩ = some (.bool dr)) (by simp)
   have b2 := HJ.out.2.cell (cellB HB8.out : W8.cell? ⟨B, 2, none⟩ = some (.slice none 0 0)) (by simp)
   have b3 := HJ.out.2.cell (cellB HB8.out : W8.cell? ⟨B, 3, none⟩ = some (.string ⟨#[]⟩)) (by simp)
   have x0' := k4.cell (cellB H8.out.box : W8.cell? ⟨X, 0, none⟩ = some (.slice (some ⟨g, 0, none⟩) S.ino.length c1)) (by simp)
   have fx := frozen_of (H8.out.kept k4).box 0
   have H10 : Hid (_) := H8.out.inos (x := ⟨(2 + (i : Int) + 8 * gm), dr, [], ⟨#[]⟩⟩) rfl k4 r4
   have HZ1 : Hid (Off [Z + 1] (.slice ua4 (S.ino.length + 1) uc4) (.slice a2 S.opn.length c2) (.slice (some ⟨g3, 0, none⟩) S.made.length c3) (ev' ++ [.slice none 0 0])) := by
    have s1 := HZb.out.2.2
    have s6 := HK6.out.size
    have s7 := HR7.out.2.2.1.size
    have s8 := HK8.out.size
    obtain ⟨o1, o2, o3, o4⟩ := HR7.out.2.2.2 (Z + 1) (by omega) HXZ.out.2.2.2 (Z + 1) (by simp)
    refine off_of ⟨fun e => by have := (r4.lt _ e).1; omega, o2, o3, fun v hv => ?_⟩
    rcases List.mem_append.1 hv with hv | hv
    · exact o4 v hv
    ·
     rw [List.mem_singleton] at hv
     subst hv
     intro e
     cases e
   have HK4 : Hid (Kept [g, g3, X] W1 (w4.setCell ⟨X, 0, none⟩ (.slice ua4 (S.ino.length + 1) uc4))) := (((HK7.out.mono (by simp)).trans HK8.out (by simp)).trans k4 (by simp)).setCell (Or.inl (by simp)) _
   clear hr4 r4 k4 HJ hl hj1
   go_wp2_with (at_builtin; refine wpList_append_run _ rfl _ _ 23 23 rfl _ _ rfl rfl _ _ HA4.out ?_)
   refine (r_fail 0 _).mono ?_
   rintro e w8 ⟨rfl, k8⟩
   have h8 := H10.out.kept k8
   have hZX : X ≠ Z + 1 := by have := HXZ.out.1; omega
   have kA : Kept [g, g3, X] W1 w8 := HK4.out.trans k8 (by simp)
   have hres : w8.heap[Z + 1]? = some (.cells #[.int .i64 0, .int .i64 0, .int .i64 0, .bool false, .string ⟨#[]⟩, .slice none 0 0] 31 (0, 0)) := (kA.block _ (lt_of_heap HZb.out.2.1) (by simp; exact ⟨HZG1.out.1, HZG1.out.2, hZX.symm⟩)).trans HZb.out.2.1
   have h9 := blockY hres (.int .i64 0) (.int .i64 0) (.int .i64 0) (.bool false) (.string ⟨#[]⟩) (.slice none 0 0)
   have HF : Hid (Hc w0 (laidY w8 (Z + 1) (.int .i64 0) (.int .i64 0) (.int .i64 0) (.bool false) (.string ⟨#[]⟩) (.slice none 0 0)) X (.slice ua4 (S.ino.length + 1) uc4) (.slice a2 S.opn.length c2) (.slice (some ⟨g3, 0, none⟩) S.made.length c3) (ev' ++ [.slice none 0 0]) ⟨S7.ino ++ [⟨(2 + (i : Int) + 8 * gm), dr, [], ⟨#[]⟩⟩], S7.opn, S7.made⟩ ∧ Kept [g, g3, X] w (laidY w8 (Z + 1) (.int .i64 0) (.int .i64 0) (.int .i64 0) (.bool false) (.string ⟨#[]⟩) (.slice none 0 0))) := by
    refine ⟨h8.laidY HXZ.out.2.2.1 hZX HZ1.out _ _ _ _ _ _, ?_⟩
    refine keptY ((HKW.out.mono (by simp)).trans kA (fun x hx => Or.inl hx)) ?_ _ _ _ _ _ _
    have := HXZ.out.2.1
    omega
   obtain ⟨t0, t1, t2, t3, t4, t5⟩ := cz6 hres
   obtain ⟨f0, f1, f2, f3, f4, f5⟩ := fz6 hres
   obtain ⟨W9, hW9⟩ : ∃ W9, laidY w8 (Z + 1) (.int .i64 0) (.int .i64 0) (.int .i64 0) (.bool false) (.string ⟨#[]⟩) (.slice none 0 0) = W9 := ⟨_, rfl⟩
   rw [hW9] at HF h9
   have HW9 : Hid (_) := hW9
   clear hW9 hres h8 k8 kA hZX fx x0' x0 b0 b1 b2 b3
   go_wp2_with fail
   (try simp only [Exit.inBlock, Exit.then])
   unfold Go.Proofs.YtffncojcnbhblaaGreatDoor.laidY at HW9
   rw [HW9.out]
   refine bodyPost_ret (results_cell_row rfl _ _ (Z + 1) 31 #[.int .i64 0, .int .i64 0, .int .i64 0, .bool false, .string ⟨#[]⟩, .slice none 0 0] (0, 0) _ rfl h9 Tryz.underlying31 rfl (by kernel_rfl)) rfl ?_
   have HF1 := HF.out.1
   rw [← HR7.out.1] at HF1
   rw [← HD.out] at HF1
   exact ⟨rfl, ua4, uc4, _, HF1, HF.out.2⟩
theorem r_sized (s : ByteArray) (n : Nat) (hn : n ≤ 140737488351232) (w : World) :
  Calls Tryz.prog 98 #[.string s, .int .i64 (n : Int)] w fun e w' => ∃ G, e = .returned (.slice (some ⟨G, 0, none⟩) n n) ∧ Bs w w' G (sizedL s n) := by
 have hmk := make_bytes n hn
 obtain ⟨W1, hW1⟩ : ∃ W1, w.alloc (.cells ((List.replicate n (0 : Int)).map (Value.int .u8)).toArray 5) = W1 := ⟨_, rfl⟩
 have hmk1 := hmk w
 rw [hW1] at hmk1
 have hB := Bs.made (Kept.refl [] w) n
 rw [hW1] at hB
 have hcp := run_copy_str (P := Tryz.prog) W1 133 9 3 5 w.heap.size 0 n n s _ 5 Tryz.underlying133 sz5 hB.here (by simp; exact Nat.min_le_right _ _)
 have e1 : (((List.replicate n (0 : Int)).map (Value.int .u8)).toArray.toList.take 0 ++ (s.data.toList.map fun b => Value.int .u8 (b.toNat : Int)).take (Nat.min s.size n) ++ ((List.replicate n (0 : Int)).map (Value.int .u8)).toArray.toList.drop (0 + Nat.min s.size n)) = (sizedL s n).map (Value.int .u8) := by
  unfold sizedL byI
  rw [List.map_append, List.map_take, List.map_map, List.take_zero, List.nil_append]
  congr 1
  ·
   have : (s.data.toList.map fun b => Value.int .u8 (b.toNat : Int)).length = s.size := by simp
   rw [show Nat.min s.size n = min s.size n from rfl, ← this, Nat.min_comm, ← List.take_take]
   rw [List.take_length]
   rfl
  ·
   simp only [List.map_replicate, Nat.zero_add, List.drop_replicate]
   congr 1
   show n - min s.size n = n - s.size
   omega
 rw [e1] at hcp
 have hB2 := hB.setRow (sizedL s n)
 obtain ⟨W2, hW2⟩ : ∃ W2, W1.setRow w.heap.size ((sizedL s n).map (Value.int .u8)).toArray = W2 := ⟨_, rfl⟩
 rw [hW2] at hcp hB2
 have HB : Hid (_) := hB2
 have hgi : goInt (Nat.min s.size n) = .int .i64 ((Nat.min s.size n : Nat) : Int) := rfl
 rw [hgi] at hcp
 have hn63 : n ≤ 9223372036854775807 := by omega
 clear hW1 hW2 hB hB2 hmk e1 hgi
 go_enter Tryz.func98, Tryz.ntmps98
 go_wp2_with fail
 go_ret
 exact ⟨_, rfl, HB.out⟩
end Go.Proofs.YtffncojcnbhblaaGreatDoor
