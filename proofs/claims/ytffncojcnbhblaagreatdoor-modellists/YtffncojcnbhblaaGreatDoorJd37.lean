/-
  Joined of my texts Yq.
-/
import Derived.Test.YtffncojcnbhblaaGreatDoorJd36
import Derived.Test.YtffncojcnbhblaaGreatDoorTk
set_option linter.unusedVariables false
set_option linter.unusedSimpArgs false
set_option maxRecDepth 100000
set_option maxHeartbeats 8000000
namespace Go.Proofs.YtffncojcnbhblaaGreatDoor
open Go.RowKit
theorem rrun_max (n m : Nat) (w : World) : (Builtin.max_ #[3, 3] 3 #[.int .i64 (n : Int), .int .i64 (m : Int)]).run Tryz.prog w = .ok (.int .i64 ((max n m : Nat) : Int)) w := by
 have e : (max (n : Int) (m : Int)) = ((max n m : Nat) : Int) := by omega
 rw [← e]
 simp [Builtin.max_, Builtin.max2]
 split <;> omega
def writeQ (D t : ByteArray) (a : Nat) : List Int := (sizedL D (max D.size (a + t.size))).take a ++ byI t ++ (sizedL D (max D.size (a + t.size))).drop (a + t.size)
theorem writeQ_length (D t : ByteArray) (a : Nat) : (writeQ D t a).length = max D.size (a + t.size) := by
 unfold writeQ
 rw [List.length_append, List.length_append, List.length_take, List.length_drop, sizedL_length, byI_length]
 omega
theorem add_wr {a s q : Nat} (h : a + s = q) (hq : q ≤ 256) : IntKind.i64.wrap ((a : Int) + (s : Int)) = (q : Int) ∧ wrap64 ((a : Int) + (s : Int)) = (q : Int) ∧ ¬ (a : Int) < 0 ∧ ¬ (256 : Int) < (a : Int) ∧ ¬ (256 : Int) < (s : Int) ∧ ¬ (256 : Int) < (q : Int) ∧ s ≤ 9223372036854775807 ∧ q ≤ 256 := by
 refine ⟨?_, ?_, by omega, by omega, by omega, by omega, by omega, hq⟩
 · rw [IntKind.wrap_i64]; omega
 · unfold wrap64; omega
theorem r_write {w0 w : World} {X g c1 c2 c3 : Nat} {a2 a3 : Option Addr} {ev : List Value} {S : Sta} (h : Hc w0 w X (.slice (some ⟨g, 0, none⟩) S.ino.length c1) (.slice a2 S.opn.length c2) (.slice a3 S.made.length c3) ev S) (hb : Bd S) (c : Cal) (hck : c.kind = 5) {num : Int} (hfd : fdR S.opn c.core c.fd = num) (hnz : num ≠ 0) {k : Nat} (hat : atR S.ino num = some k) (hk : k < S.ino.length) {D : ByteArray} (hD : (S.ino[k]).data = D) {a : Nat} (ho : c.off = (a : Int)) (hz6 : 0 < c.data.size) (hne : c.data.toList.isEmpty = false) (hq6 : a + c.data.size ≤ 256) :
  Calls Tryz.prog 63 #[.pointer (some ⟨X, 0, none⟩), .agg #[.int .i64 c.kind, .int .i64 c.core, .int .i64 c.fd, .int .i64 c.off, .int .i64 c.num, .string c.path, .string c.path2, .string c.data]] w fun e w' => e = .returned (.agg #[.int .i64 0, .int .i64 0, .int .i64 (c.data.size : Int), .bool false, .string ⟨#[]⟩, .slice none 0 0]) ∧ Hc w0 w' X (.slice (some ⟨g, 0, none⟩) S.ino.length c1) (.slice a2 S.opn.length c2) (.slice a3 S.made.length c3) ev (setD S k hk (strOfNums (writeQ D c.data a))) ∧ Kept [g] w w' := by
 rw [hck, ho]
 obtain ⟨W1, Z, HW, HKW, HZb⟩ := twoY w #[.int .i64 5, .int .i64 c.core, .int .i64 c.fd, .int .i64 (a : Int), .int .i64 c.num, .string c.path, .string c.path2, .string c.data] #[.int .i64 0, .int .i64 0, .int .i64 0, .bool false, .string ⟨#[]⟩, .slice none 0 0] 35 31
 have HXZ : Hid (X < Z ∧ w.heap.size = Z ∧ w0.heap.size ≤ Z + 1 ∧ g < Z ∧ Off [Z + 1] (.slice (some ⟨g, 0, none⟩) S.ino.length c1) (.slice a2 S.opn.length c2) (.slice a3 S.made.length c3) ev) := by
  have h1 := lt_of_heap h.box
  have h2 := HW.out.2
  have h3 := h.k.size
  have h4 := (h.os.ino.lt g rfl).2
  exact ⟨by omega, h2, by omega, by omega, off_of (h.os.lt (by omega))⟩
 have HH : Hid (_) := h.kept HKW.out
 obtain ⟨p, e1, e2, e3, hsv, -⟩ := HH.out.os.sv hb
 simp only [Value.slice.injEq, true_and] at e1 e2 e3
 obtain ⟨pa1, pc1, pa2, pc2, pa3, pc3⟩ := p
 dsimp only at e1 e2 e3
 obtain ⟨rfl, rfl⟩ := e1
 obtain ⟨rfl, rfl⟩ := e2
 obtain ⟨rfl, rfl⟩ := e3
 have HFd : Hid (∀ W, Kept [] W1 W → Calls Tryz.prog 95 #[.agg #[.slice (some ⟨g, 0, none⟩) S.ino.length c1, .slice a2 S.opn.length c2, .slice a3 S.made.length c3], .int .i64 c.core, .int .i64 c.fd] W fun e w' => e = .returned (.int .i64 num) ∧ Kept [] W w') := fun W kW => by
  have := r_fd (hsv.kept kW) c.core c.fd
  rw [hfd] at this
  exact this
 have HAt : Hid (∀ W, Kept [] W1 W → Calls Tryz.prog 94 #[.agg #[.slice (some ⟨g, 0, none⟩) S.ino.length c1, .slice a2 S.opn.length c2, .slice a3 S.made.length c3], .int .i64 num] W fun e w' => e = .returned (.int .i64 (k : Int)) ∧ Kept [] W w') := fun W kW => by
  have := r_at (hsv.kept kW) num
  rw [hat] at this
  exact this
 obtain ⟨b', o', ae, ce, ha, -, -, -, q3, -⟩ := hsv.ino k hk
 simp only [Option.some.injEq, Addr.mk.injEq, and_true] at ha
 obtain ⟨rfl, rfl⟩ := ha
 rw [Nat.zero_add, hD] at q3
 have HD : Hid (D.size ≤ 140737488351232) := by rw [← hD]; exact hb.d1 _ (List.getElem_mem hk)
 have HC1 : Hid (W1.cell? ⟨X, 0, none⟩ = some (.slice (some ⟨g, 0, none⟩) S.ino.length c1) ∧ W1.cell? ⟨X, 1, none⟩ = some (.slice a2 S.opn.length c2) ∧ W1.cell? ⟨X, 2, none⟩ = some (.slice a3 S.made.length c3) ∧ W1.cell? ⟨Z, 1, none⟩ = some (.int .i64 c.core) ∧ W1.cell? ⟨Z, 2, none⟩ = some (.int .i64 c.fd)) := ⟨cellB HH.out.box, cellB HH.out.box, cellB HH.out.box, cellB HZb.out.1, cellB HZb.out.1⟩
 have HC4 : Hid (W1.cell? ⟨X, 0, none⟩ = some (.slice (some ⟨g, 0, none⟩) S.ino.length c1) ∧ W1.cell? ⟨X, 1, none⟩ = some (.slice a2 S.opn.length c2) ∧ W1.cell? ⟨X, 2, none⟩ = some (.slice a3 S.made.length c3) ∧ W1.cell? ⟨Z, 0, none⟩ = some (.int .i64 5)) := ⟨HC1.out.1, HC1.out.2.1, HC1.out.2.2.1, cellB HZb.out.1⟩
 have HC26 : Hid (W1.cell? ⟨g, k * 4 + 3, none⟩ = some (.string D) ∧ W1.cell? ⟨Z, 3, none⟩ = some (.int .i64 (a : Int)) ∧ W1.cell? ⟨Z, 7, none⟩ = some (.string c.data)) := ⟨q3, cellB HZb.out.1, cellB HZb.out.1⟩
 have k0 : (0 : Int) ≤ (k : Int) := by omega
 have k1 : (k : Int) < (S.ino.length : Int) := by omega
 obtain ⟨q, hq⟩ : ∃ q, a + c.data.size = q := ⟨_, rfl⟩
 obtain ⟨vs, vt, za, zb, zc, zd, z63, hq2⟩ := add_wr hq (hq ▸ hq6)
 have HQ : Hid (a + c.data.size = q ∧ q ≤ 256 ∧ 0 < c.data.size) := ⟨hq, hq2, hz6⟩
 have zab : decide ((a : Int) < 0) = false := decide_eq_false za
 have zbb : decide ((256 : Int) < (a : Int)) = false := decide_eq_false zb
 have zcb : decide ((256 : Int) < (c.data.size : Int)) = false := decide_eq_false zc
 have zdb : decide ((256 : Int) < (q : Int)) = false := decide_eq_false zd
 have HKW1 : Hid (Kept [] W1 W1) := Kept.refl _ _
 clear h hb hfd hat hsv q3 hD hck ho hz6 hq6 hq
 go_enter Tryz.func63, Tryz.ntmps63
 go_upto_region 1 with fail
 rw [HW.out.1, HW.out.2]
 clear HW
 have HKd1 : Hid (Kept [] W1 W1.drew) := (Kept.refl [] W1).drew
 have HD1 : Hid (_) := x5_kept HC1.out HKd1.out
 go_region_held3 (fun w' => w'.cell? ⟨X, 0, none⟩ = some (.slice (some ⟨g, 0, none⟩) S.ino.length c1) ∧ w'.cell? ⟨X, 1, none⟩ = some (.slice a2 S.opn.length c2) ∧ w'.cell? ⟨X, 2, none⟩ = some (.slice a3 S.made.length c3) ∧ w'.cell? ⟨Z, 1, none⟩ = some (.int .i64 c.core) ∧ w'.cell? ⟨Z, 2, none⟩ = some (.int .i64 c.fd)) (first | exact HD1.out | exact z6 | go_keep)
  (first
   | (go_at_call 95; refine (HFd.out _ HKd1.out).mono ?_; rintro e w2 ⟨rfl, k2⟩; have z6 := x5_kept HD1.out k2))
 have HKw2 : Hid (Kept [] W1 w2) := HKd1.out.trans k2 (by simp)
 clear z6 k2 HD1 HKd1
 go_upto_region 4 with fail
 have HKd4 : Hid (Kept [] W1 w2.drew) := HKw2.out.trans (Kept.refl [] w2).drew (by simp)
 have HD4 : Hid (_) := x4_kept HC4.out HKd4.out
 go_region_held3 (fun w' => w'.cell? ⟨X, 0, none⟩ = some (.slice (some ⟨g, 0, none⟩) S.ino.length c1) ∧ w'.cell? ⟨X, 1, none⟩ = some (.slice a2 S.opn.length c2) ∧ w'.cell? ⟨X, 2, none⟩ = some (.slice a3 S.made.length c3) ∧ w'.cell? ⟨Z, 0, none⟩ = some (.int .i64 5)) (first | exact HD4.out | exact z4 | go_keep)
  (first
   | (go_at_call 94; refine (HAt.out _ HKd4.out).mono ?_; rintro e w3 ⟨rfl, k4⟩; have z4 := x4_kept HD4.out k4))
 have HKw3 : Hid (Kept [] W1 w3) := HKd4.out.trans k4 (by simp)
 clear z4 k4 HD4 HKd4
 obtain ⟨y0, y3, y7⟩ := HC26.out
 replace y0 := HKw3.out.cell y0 (by simp)
 replace y3 := HKw3.out.cell y3 (by simp)
 replace y7 := HKw3.out.cell y7 (by simp)
 have yk := HKw3.out.cell HC4.out.2.2.2 (by simp)
 have HC : Hid (w3.cell? ⟨g, k * 4 + 3, none⟩ = some (.string D) ∧ w3.cell? ⟨Z, 3, none⟩ = some (.int .i64 (a : Int)) ∧ w3.cell? ⟨Z, 7, none⟩ = some (.string c.data)) := ⟨y0, y3, y7⟩
 obtain ⟨mx, hmx⟩ : ∃ mx, max D.size q = mx := ⟨_, rfl⟩
 have mx1 := rrun_max D.size q
 rw [hmx] at mx1
 have HD2 := HD.out
 have hq9 := HQ.out
 have HMx : Hid (mx ≤ 140737488351232 ∧ q ≤ mx) := ⟨by omega, by omega⟩
 have d63 : D.size ≤ 9223372036854775807 := by omega
 have HMe : Hid (max D.size (a + c.data.size) = mx) := by show _ = _; rw [hq9.1]; exact hmx
 have aq : a < mx := by omega
 have aq1 : ¬ mx = a := by omega
 have aq2 : (0 : Int) ≤ (a : Int) := by omega
 have aq3 : (a : Int) ≤ (mx : Int) := by omega
 clear hmx hq9 HD2 yk
 go_upto_region 26 with fail
 go_region_held3 (fun w' => w'.cell? ⟨g, k * 4 + 3, none⟩ = some (.string D) ∧ w'.cell? ⟨Z, 3, none⟩ = some (.int .i64 (a : Int)) ∧ w'.cell? ⟨Z, 7, none⟩ = some (.string c.data)) (first | exact HC.out | exact z4 | go_keep)
  (first
   | (go_at_call 98; refine (r_sized D mx HMx.out.1 _).mono ?_; rintro e w4 ⟨G, rfl, h4⟩; have HK4 : Hid (Kept [] w3 w4) := (Kept.refl _ _).drew.trans h4.kept (by simp); have z4 := (⟨HK4.out.cell (HC.out.1) (by simp), HK4.out.cell (HC.out.2.1) (by simp), HK4.out.cell (HC.out.2.2) (by simp)⟩ : w4.cell? ⟨g, k * 4 + 3, none⟩ = some (.string D) ∧ w4.cell? ⟨Z, 3, none⟩ = some (.int .i64 (a : Int)) ∧ w4.cell? ⟨Z, 7, none⟩ = some (.string c.data)); have HG4 : Hid (_) := h4; clear h4))
 have HS4 : Hid (_) := z4
 clear z4
 have hGl : (sizedL D mx).length = mx := sizedL_length _ _
 have hcp := run_copy_str (P := Tryz.prog) w4.drew 133 9 3 5 G a (mx - a) (mx - a) c.data _ 5 Tryz.underlying133 sz5 HG4.out.here (by
  have h1 := HMx.out.2
  have h2 := HQ.out.1
  have h3 : Nat.min c.data.size (mx - a) = c.data.size := Nat.min_eq_left (by omega)
  rw [h3]
  simp only [List.size_toArray, List.length_map, hGl]
  omega)
 have h3 : Nat.min c.data.size (mx - a) = c.data.size := Nat.min_eq_left (by have h1 := HMx.out.2; have h2 := HQ.out.1; omega)
 rw [h3] at hcp
 have e1 : (((sizedL D mx).map (Value.int .u8)).toArray.toList.take a ++ (c.data.data.toList.map fun b => Value.int .u8 (b.toNat : Int)).take c.data.size ++ ((sizedL D mx).map (Value.int .u8)).toArray.toList.drop (a + c.data.size)) = (writeQ D c.data a).map (Value.int .u8) := by
  unfold writeQ byI
  rw [HMe.out, List.map_append, List.map_append, List.map_take, List.map_drop, List.map_map]
  have : (c.data.data.toList.map fun b => Value.int .u8 (b.toNat : Int)).length = c.data.size := by simp
  rw [← this, List.take_length]
  rfl
 rw [e1] at hcp
 have hB5 := HG4.out.setRow (writeQ D c.data a)
 have hK5 : Kept [] w3 (w4.drew.setRow G ((writeQ D c.data a).map (Value.int .u8)).toArray) := by
  have := (HK4.out.drew).setRow (g := G) (Or.inr (by have := HG4.out.new; exact this)) ((writeQ D c.data a).map (Value.int .u8)).toArray
  exact this
 have hG5 : (w4.drew.setRow G ((writeQ D c.data a).map (Value.int .u8)).toArray).heap[G]? = some (.cells ((writeQ D c.data a).map (Value.int .u8)).toArray 5 (0, 0)) := setRow_heap w4.drew G _ _ _ _ HG4.out.here
 obtain ⟨W5, hW5⟩ : ∃ W5, w4.drew.setRow G ((writeQ D c.data a).map (Value.int .u8)).toArray = W5 := ⟨_, rfl⟩
 rw [hW5] at hcp hK5 hG5
 have hgi : goInt c.data.size = .int .i64 (c.data.size : Int) := rfl
 rw [hgi] at hcp
 have z5 := (⟨hK5.cell (HC.out.1) (by simp), hK5.cell (HC.out.2.1) (by simp), hK5.cell (HC.out.2.2) (by simp)⟩ : W5.cell? ⟨g, k * 4 + 3, none⟩ = some (.string D) ∧ W5.cell? ⟨Z, 3, none⟩ = some (.int .i64 (a : Int)) ∧ W5.cell? ⟨Z, 7, none⟩ = some (.string c.data))
 have HB5 : Hid (Bs w3 W5 G (writeQ D c.data a)) := ⟨hK5, HG4.out.new, hG5⟩
 have HK5 : Hid (Kept [] w3 W5) := hK5
 clear e1 hB5 hK5 hG5 hW5 hgi h3 hGl
 go_upto_region 27 with fail
 refine wp_region_held_drew (S := fun w' => w'.cell? ⟨g, k * 4 + 3, none⟩ = some (.string D) ∧ w'.cell? ⟨Z, 3, none⟩ = some (.int .i64 (a : Int)) ∧ w'.cell? ⟨Z, 7, none⟩ = some (.string c.data)) (by kernel_rfl) ?_ (fun hHeld => ?_)
 · exact HS4.out
 refine tkA 0 rfl ?_
 refine tkA 1 rfl ?_
 refine tkA 2 rfl ?_
 refine tkA 3 rfl ?_
 refine tkA 4 rfl ?_
 refine tkA 5 rfl ?_
 refine wpAnyH_ready (rs := [6]) (by kernel_rfl) (by simp) ?_
 refine AllReadyH.cons rfl (fun K hK => ?_) AllReadyH.nil
 go_simp
 refine hK.out _ _ ?_ (fun hHeld => ?_)
 · exact z5
 clear hK K
 try simp only [Act.put, List.setIfInBounds_toArray, List.set_cons_zero, List.set_cons_succ, List.getElem_toArray, List.getElem_cons_zero, List.getElem_cons_succ]
 refine wpAnyH_done (by kernel_rfl) ?_ _
 have hcv := HB5.out.conv mx (by rw [writeQ_length]; exact HMe.out) mx
 have q5 := z5.1
 have HH5 : Hid (_) := HH.out.kept (HKw3.out.trans HK5.out (by simp))
 have f5 : W5.frozen? ⟨g, k * 4 + 3, none⟩ = false := HH5.out.os.ino.frozenAt _
 have y7b := HK5.out.cell y7 (by simp)
 have HXg : Hid (X ≠ g ∧ Z + 1 ≠ g ∧ Z ≠ g) := ⟨fun e => (HH5.out.off X (by simp)).1 (by rw [e]; rfl), by have := HXZ.out.2.2.2.1; omega, by have := HXZ.out.2.2.2.1; omega⟩
 have h6 : Hc w0 (W5.setCell ⟨g, k * 4 + 3, none⟩ (.string (strOfNums (writeQ D c.data a)))) X (.slice (some ⟨g, 0, none⟩) S.ino.length c1) (.slice a2 S.opn.length c2) (.slice a3 S.made.length c3) ev (setD S k hk (strOfNums (writeQ D c.data a))) := by
  refine ⟨by rw [block_other HXg.out.1]; exact HH5.out.box, HH5.out.os.setDat hk rfl _, HH5.out.off, HH5.out.lo, ?_⟩
  exact HH5.out.k.setCell (Or.inr (HH5.out.os.ino.lt g rfl).1) _
 have hres : (W5.setCell ⟨g, k * 4 + 3, none⟩ (.string (strOfNums (writeQ D c.data a)))).heap[Z + 1]? = some (.cells #[.int .i64 0, .int .i64 0, .int .i64 0, .bool false, .string ⟨#[]⟩, .slice none 0 0] 31 (0, 0)) := by
  rw [block_other HXg.out.2.1]
  have h4 := (HKw3.out.block _ (lt_of_heap HZb.out.2.1) (by simp)).trans HZb.out.2.1
  exact (HK5.out.block _ (lt_of_heap h4) (by simp)).trans h4
 have hkk : Kept [g] w (W5.setCell ⟨g, k * 4 + 3, none⟩ (.string (strOfNums (writeQ D c.data a)))) := (((HKW.out.trans HKw3.out (by simp)).trans HK5.out (by simp)).mono (by simp)).setCell (Or.inl (by simp)) _
 have h77 : (W5.setCell ⟨g, k * 4 + 3, none⟩ (.string (strOfNums (writeQ D c.data a)))).cell? ⟨Z, 7, none⟩ = some (.string c.data) := by
  have hb : (W5.setCell ⟨g, k * 4 + 3, none⟩ (.string (strOfNums (writeQ D c.data a)))).heap[Z]? = W5.heap[Z]? := block_other HXg.out.2.2
  rw [World.cell?_of_block (a := ⟨Z, 7, none⟩) hb]
  exact y7b
 clear hcp z5 hHeld y7b
 go_upto_region 29 with fail
 obtain ⟨W6, hW6⟩ : ∃ W6, W5.setCell ⟨g, k * 4 + 3, none⟩ (.string (strOfNums (writeQ D c.data a))) = W6 := ⟨_, rfl⟩
 rw [hW6] at h6 hres hkk h77 ⊢
 clear hW6 hcv q5 f5
 have h9 := blockY hres (.int .i64 0) (.int .i64 0) (.int .i64 (c.data.size : Int)) (.bool false) (.string ⟨#[]⟩) (.slice none 0 0)
 have hZX : X ≠ Z + 1 := by have := HXZ.out.1; omega
 have HF : Hid (Hc w0 (laidY W6 (Z + 1) (.int .i64 0) (.int .i64 0) (.int .i64 (c.data.size : Int)) (.bool false) (.string ⟨#[]⟩) (.slice none 0 0)) X (.slice (some ⟨g, 0, none⟩) S.ino.length c1) (.slice a2 S.opn.length c2) (.slice a3 S.made.length c3) ev (setD S k hk (strOfNums (writeQ D c.data a))) ∧ Kept [g] w (laidY W6 (Z + 1) (.int .i64 0) (.int .i64 0) (.int .i64 (c.data.size : Int)) (.bool false) (.string ⟨#[]⟩) (.slice none 0 0))) := by
  refine ⟨h6.laidY HXZ.out.2.2.1 hZX HXZ.out.2.2.2.2 _ _ _ _ _ _, keptY hkk ?_ _ _ _ _ _ _⟩
  have := HXZ.out.2.1
  omega
 obtain ⟨t0, t1, t2, t3, t4, t5⟩ := cz6 hres
 obtain ⟨f0, f1, f2, f3, f4, f5⟩ := fz6 hres
 obtain ⟨W9, hW9⟩ : ∃ W9, laidY W6 (Z + 1) (.int .i64 0) (.int .i64 0) (.int .i64 (c.data.size : Int)) (.bool false) (.string ⟨#[]⟩) (.slice none 0 0) = W9 := ⟨_, rfl⟩
 rw [hW9] at HF h9
 have HW9 : Hid (_) := hW9
 clear hW9 hres h6 hkk hZX
 go_wp2_with fail
 (try simp only [Exit.inBlock, Exit.then])
 unfold Go.Proofs.YtffncojcnbhblaaGreatDoor.laidY at HW9
 rw [HW9.out]
 refine bodyPost_ret (results_cell_row rfl _ _ (Z + 1) 31 #[.int .i64 0, .int .i64 0, .int .i64 (c.data.size : Int), .bool false, .string ⟨#[]⟩, .slice none 0 0] (0, 0) _ rfl h9 Tryz.underlying31 rfl (by kernel_rfl)) rfl ?_
 exact ⟨rfl, HF.out.1, HF.out.2⟩
end Go.Proofs.YtffncojcnbhblaaGreatDoor
