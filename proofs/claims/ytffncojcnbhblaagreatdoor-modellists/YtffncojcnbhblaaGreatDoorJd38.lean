/-
  Joined of my texts Yb.
-/
import Derived.Test.YtffncojcnbhblaaGreatDoorJd31
import Derived.Test.YtffncojcnbhblaaGreatDoorTk
set_option linter.unusedVariables false
set_option linter.unusedSimpArgs false
set_option maxRecDepth 100000
set_option maxHeartbeats 8000000
namespace Go.Proofs.YtffncojcnbhblaaGreatDoor
open List renaming setIfInBounds_toArray → lz0, set_cons_zero → lz1, set_cons_succ → lz2, getElem_toArray → lz3, getElem_cons_zero → lz4, getElem_cons_succ → lz5
open Go.RowKit
structure OkI (S : Sta) (i : Nat) (x : Ino) : Prop where
 a : 0 < i → ∀ o, S.ino[i - 1]? = some o → o.num < x.num ∧ GivenP S.made x.num
 b : x.data.size ≤ 256
 c : x.dir = true → x.data.toList = []
 d : x.dir = false → x.ents = []
 e : EntsP S x.ents
 f : 0 < i → x.dir = true → linksR S.ino x.num = 1 ∧ Reach S i
 g : x.dir = false → Reach S i ∨ isOpenR S.opn x.num = true
structure MayP (S : Sta) : Prop where
 m0 : 1 ≤ S.made.length
 m8 : S.made.length ≤ 8
 i0 : ∃ x, S.ino[0]? = some x ∧ x.num = 1 ∧ x.dir = true
 op : OpenP S
 md : ∀ (i : Nat) (m : Int), S.made[i]? = some m → 0 ≤ m ∧ m ≤ 32
 n : S.ino.length ≤ 257
 each : ∀ i x, S.ino[i]? = some x → OkI S i x
theorem cx_kept {w w' : World} {X Z b o n ce nE : Nat} {ae : Option Addr} {num pn : Int} {dir : Bool} {data : ByteArray} {p : Pl} {S : Sta} (h : w.cell? ⟨X, 0, none⟩ = some (.slice (some ⟨b, o, none⟩) S.ino.length p.c1) ∧ w.cell? ⟨X, 1, none⟩ = some (.slice p.a2 S.opn.length p.c2) ∧ w.cell? ⟨X, 2, none⟩ = some (.slice p.a3 S.made.length p.c3) ∧ w.cell? ⟨Z, 0, none⟩ = some (.int .i64 num) ∧ w.cell? ⟨Z, 1, none⟩ = some (.bool dir) ∧ w.cell? ⟨Z, 2, none⟩ = some (.slice ae nE ce) ∧ w.cell? ⟨Z, 3, none⟩ = some (.string data) ∧ w.cell? ⟨b, o + (n - 1) * 4, none⟩ = some (.int .i64 pn)) (k : Kept [] w w') : w'.cell? ⟨X, 0, none⟩ = some (.slice (some ⟨b, o, none⟩) S.ino.length p.c1) ∧ w'.cell? ⟨X, 1, none⟩ = some (.slice p.a2 S.opn.length p.c2) ∧ w'.cell? ⟨X, 2, none⟩ = some (.slice p.a3 S.made.length p.c3) ∧ w'.cell? ⟨Z, 0, none⟩ = some (.int .i64 num) ∧ w'.cell? ⟨Z, 1, none⟩ = some (.bool dir) ∧ w'.cell? ⟨Z, 2, none⟩ = some (.slice ae nE ce) ∧ w'.cell? ⟨Z, 3, none⟩ = some (.string data) ∧ w'.cell? ⟨b, o + (n - 1) * 4, none⟩ = some (.int .i64 pn) :=
 ⟨k.cell h.1 (by simp), k.cell h.2.1 (by simp), k.cell h.2.2.1 (by simp), k.cell h.2.2.2.1 (by simp), k.cell h.2.2.2.2.1 (by simp), k.cell h.2.2.2.2.2.1 (by simp), k.cell h.2.2.2.2.2.2.1 (by simp), k.cell h.2.2.2.2.2.2.2 (by simp)⟩
theorem r_may {w : World} {p : Pl} {S : Sta} (h : Sv w p S) (ht : tot S ≤ 17592186044000) (hm : MayP S) :
  Calls Tryz.prog 58 #[sval p S] w fun e w' => e = .returned (.bool true) ∧ Kept [] w w' := by
 have HSV : Hid (Sv w p S) := h
 have HT : Hid (_) := ht
 have HM : Hid (MayP S) := hm
 obtain ⟨W0, X, HW, HB⟩ := boxS h
 have a1 : ¬ (S.made.length : Int) < 1 := by have := hm.m0; omega
 have a2 : ¬ (8 : Int) < (S.made.length : Int) := by have := hm.m8; omega
 obtain ⟨xr, hxr, hn1, hd1⟩ := hm.i0
 obtain ⟨hl0, hxe⟩ := List.getElem?_eq_some_iff.1 hxr
 have a3 : ¬ (S.ino.length : Int) < 1 := by omega
 have a1f : decide ((S.made.length : Int) < 1) = false := by simp only [decide_eq_false_iff_not]; exact a1
 have a2f : decide ((8 : Int) < (S.made.length : Int)) = false := by simp only [decide_eq_false_iff_not]; exact a2
 have a3f : decide ((S.ino.length : Int) < 1) = false := by simp only [decide_eq_false_iff_not]; exact a3
 have l1 : (0 : Int) < (S.ino.length : Int) := by omega
 have c1i : ¬ (257 : Int) < (S.ino.length : Int) := by have := hm.n; omega
 have hn257 : S.ino.length ≤ 257 := hm.n
 obtain ⟨b, o, ae0, ce0, ha, h0, h1, -⟩ := HB.out.sv.ino 0 hl0
 rw [hxe, hn1] at h0
 rw [hxe, hd1] at h1
 simp only [Nat.zero_mul, Nat.add_zero] at h0 h1
 have q0 := HB.out.x0
 have q1 := HB.out.x1
 have q2 := HB.out.x2
 rw [ha] at q0
 have HAD : Hid (p.a1 = some ⟨b, o, none⟩) := ha
 have HRo : Hid (∀ W, Sv W p S → Calls Tryz.prog 84 #[.agg #[.slice (some ⟨b, o, none⟩) S.ino.length p.c1, .slice p.a2 S.opn.length p.c2, .slice p.a3 S.made.length p.c3]] W fun e w' => e = .returned (.bool true) ∧ Kept [] W w') := fun W hW => by
  have := r_open hW true (by simp [hm.op])
  unfold sval at this
  rw [ha] at this
  exact this
 clear h ht hm hxr hxe hn1 hd1 ha hl0
 go_enter Tryz.func58, Tryz.ntmps58
 go_upto_region 1 with fail
 rw [HW.out.1, HW.out.2]
 clear HW
 go_wp2_with fail
 refine (HRo.out _ HB.out.sv).mono ?_
 rintro e w1 ⟨rfl, k1⟩
 have HB1 : Hid (_) := HB.out.kept k1
 clear k1 HB q0 q1 q2 h0 h1 HRo
 have q2 := HB1.out.x2
 go_wp2_with fail
 go_loopw [3] (fun i wr => ∃ n : Nat, i = .int .i64 (n : Int) ∧ n ≤ S.made.length ∧ wr = w1) (fun i _ => (S.made.length - intOf i).toNat)
 case atStart => exact ⟨0, rfl, by omega, rfl⟩
 case round =>
  obtain ⟨n, rfl, hn, hw⟩ := hrel
  have hw2 := hw.symm
  subst hw2
  clear hw
  by_cases hlt : n < S.made.length
  ·
   have i0 : (0 : Int) ≤ (n : Int) := by omega
   have i1 : (n : Int) < (S.made.length : Int) := by omega
   obtain ⟨b', o', ha', e1⟩ := HB1.out.sv.mad n hlt
   rw [ha'] at q2
   have HD : Hid (S.made[n]? = some S.made[n]) := List.getElem?_eq_getElem hlt
   obtain ⟨z, hz⟩ : ∃ z, S.made[n] = z := ⟨_, rfl⟩
   rw [hz] at e1 HD
   clear hz ha'
   have hzz := HM.out.md n _ HD.out
   have b1 : ¬ z < 0 := by omega
   have b1f : decide (z < 0) = false := by simp only [decide_eq_false_iff_not]; exact b1
   have b2 : ¬ 32 < z := by omega
   have b2f : decide (32 < z) = false := by simp only [decide_eq_false_iff_not]; exact b2
   clear hzz
   go_wp2_with fail
   go_roundw
   case rel => exact ⟨n + 1, by go_num, by omega, trivial⟩
   case measure => simp [intOf]; omega
  ·
   have i1 : ¬ (n : Int) < (S.made.length : Int) := by omega
   have x0 := HB1.out.x0
   have x1 := HB1.out.x1
   go_wp2_with fail
   refine (r_reached HB1.out.sv (by omega) HT.out).mono ?_
   rintro e w2 ⟨B, F, rfl, hFB, hFA, k2⟩
   have HB2 : Hid (_ ∧ _) := ⟨HB1.out.kept k2, hFB⟩
   have HFA : Hid (∀ k, F k = true ↔ Reach S k) := hFA
   clear hFA hFB k2 HB1 x0 x1 q2
   go_wp2_with fail
   go_loopw [5] (fun i wr => ∃ n : Nat, i = .int .i64 (n : Int) ∧ n ≤ S.ino.length ∧ Hid (Bx w wr X p S ∧ wr.heap[B]? = some (.cells (rowF S.ino.length fun j => .bool (F j)) 4 (0, 0)))) (fun i _ => (S.ino.length - intOf i).toNat)
   case atStart => exact ⟨0, rfl, by omega, HB2.out.1, HB2.out.2⟩
   case round =>
    clear HB2
    obtain ⟨n, rfl, hn, HJ⟩ := hrel
    have x0 := HJ.out.1.x0
    by_cases hlt : n < S.ino.length
    ·
     have i0 : (0 : Int) ≤ (n : Int) := by omega
     have i1 : (n : Int) < (S.ino.length : Int) := by omega
     have HPV : Hid (∃ pn, (∀ w', Kept [] w w' → ∃ b o, p.a1 = some ⟨b, o, none⟩ ∧ w'.cell? ⟨b, o + (n - 1) * 4, none⟩ = some (.int .i64 pn)) ∧ (0 < n → ∃ O, S.ino[n - 1]? = some O ∧ O.num = pn)) := by
      refine ⟨(S.ino[n - 1]'(by omega)).num, fun w' k' => ?_, fun _ => ⟨_, List.getElem?_eq_getElem (by omega), rfl⟩⟩
      obtain ⟨b, o, ae, ce, ha, h0, -⟩ := (HSV.out.kept k').ino (n - 1) (by omega)
      exact ⟨b, o, ha, h0⟩
     obtain ⟨pn, hpc, hpv⟩ := HPV.out
     obtain ⟨b, o, ae, ce, ha, h0, h1, h2, h3, h4, h5⟩ := HJ.out.1.sv.ino n hlt
     obtain ⟨Dx, hD0⟩ : ∃ Dx, S.ino[n] = Dx := ⟨_, rfl⟩
     have HD : Hid (S.ino[n]? = some Dx) := by show _ = _; rw [List.getElem?_eq_getElem hlt, hD0]
     have HNM0 : Hid (Dx.num ≤ 9223372036854775807) := by show _ ≤ _; rw [← hD0]; exact HSV.out.w1 _ (List.getElem_mem hlt)
     have HLE0 : Hid (Dx.ents.length ≤ lim) := by show _ ≤ _; rw [← hD0]; exact HSV.out.n4 _ (List.getElem_mem hlt)
     have HEA0 : Hid (∃ ae ce, wr.cell? ⟨b, o + n * 4 + 2, none⟩ = some (.slice ae Dx.ents.length ce) ∧ EntA w ae Dx.ents) := by
      obtain ⟨b1, o1, ae1, ce1, ha1, -, -, g2, -, g4, -⟩ := HSV.out.ino n hlt
      rw [ha] at ha1
      have e1 := Option.some.inj ha1
      simp only [Addr.mk.injEq] at e1
      obtain ⟨rfl, rfl, -⟩ := e1
      rw [hD0] at g2 g4
      exact ⟨ae1, ce1, HJ.out.1.k.cell g2 (by simp), g4⟩
     rw [hD0] at h0 h1 h2 h3
     obtain ⟨num, dir, E, data⟩ := Dx
     simp only at h0 h1 h2 h3
     obtain ⟨ae2, ce2, g2, g4⟩ := HEA0.out
     simp only at g2 g4
     rw [h2] at g2
     have e2 := Option.some.inj g2
     simp only [Value.slice.injEq] at e2
     obtain ⟨rfl, -, rfl⟩ := e2
     have HEA : Hid (EntA w ae E) := g4
     have HNM : Hid (num ≤ 9223372036854775807) := HNM0.out
     have HLE : Hid (E.length ≤ lim) := HLE0.out
     rw [ha] at x0
     clear g2 g4 HEA0 HNM0 HLE0 h4 h5 hD0 HPV
     have HPV : Hid (0 < n → ∃ O, S.ino[n - 1]? = some O ∧ O.num = pn) := hpv
     have HB1 : Hid (Bx w (wr.alloc (.cells #[.int .i64 num, .bool dir, .slice ae E.length ce, .string data] 62 (0, 0))) X p S) := HJ.out.1.kept ((Kept.refl [] wr).alloc _)
     have HFD : Hid ((wr.alloc (.cells #[.int .i64 num, .bool dir, .slice ae E.length ce, .string data] 62 (0, 0))).heap[B]? = some (.cells (rowF S.ino.length fun j => .bool (F j)) 4 (0, 0))) := (((Kept.refl [] wr).alloc _).block B (lt_of_heap HJ.out.2) (by simp)).trans HJ.out.2
     have y0 := cell_new wr #[.int .i64 num, .bool dir, .slice ae E.length ce, .string data] 62 0
     have y1 := cell_new wr #[.int .i64 num, .bool dir, .slice ae E.length ce, .string data] 62 1
     have y2 := cell_new wr #[.int .i64 num, .bool dir, .slice ae E.length ce, .string data] 62 2
     have y3 := cell_new wr #[.int .i64 num, .bool dir, .slice ae E.length ce, .string data] 62 3
     obtain ⟨W1, hW1⟩ : ∃ W1, W1 = wr.alloc (.cells #[.int .i64 num, .bool dir, .slice ae E.length ce, .string data] 62 (0, 0)) := ⟨_, rfl⟩
     obtain ⟨Z, hZ⟩ : ∃ Z, wr.heap.size = Z := ⟨_, rfl⟩
     rw [← hW1] at HB1 HFD y0 y1 y2 y3
     rw [hZ] at y0 y1 y2 y3
     have HW1 : Hid (_ ∧ _) := ⟨hW1.symm, hZ⟩
     have HHA : Hid (p.a1 = some ⟨b, o, none⟩) := ha
     clear hW1 hZ HJ hpv
     go_upto_region 15 with fail
     rw [HW1.out.1, HW1.out.2]
     simp at y0 y1 y2 y3
     have HKD : Hid (Kept [] w W1.drew) := HB1.out.k.trans (Kept.refl [] W1).drew (by simp)
     have hpc2 : W1.drew.cell? ⟨b, o + (n - 1) * 4, none⟩ = some (.int .i64 pn) := by
      obtain ⟨b3, o3, ha3, g3⟩ := hpc _ HKD.out
      rw [ha] at ha3
      have e1 := Option.some.inj ha3
      simp only [Addr.mk.injEq] at e1
      obtain ⟨rfl, rfl, -⟩ := e1
      exact g3
     have kd := (Kept.refl [] W1).drew
     have hxx0 : W1.drew.cell? ⟨X, 0, none⟩ = some (.slice (some ⟨b, o, none⟩) S.ino.length p.c1) := by rw [← HHA.out]; exact kd.cell HB1.out.x0 (by simp)
     have HC : Hid (_ ∧ _ ∧ _ ∧ _ ∧ _ ∧ _ ∧ _ ∧ _) := ⟨hxx0, kd.cell HB1.out.x1 (by simp), kd.cell HB1.out.x2 (by simp), kd.cell y0 (by simp), kd.cell y1 (by simp), kd.cell y2 (by simp), kd.cell y3 (by simp), hpc2⟩
     clear HW1 x0 h0 h1 h2 h3 y0 y1 y2 y3 hpc hpc2 kd ha
     have HI : Hid (OkI S n ⟨num, dir, E, data⟩) := HM.out.each n _ HD.out
     have HEn : Hid (∀ (d : Bool) (W : World), Kept [] w W → Calls Tryz.prog 87 #[.agg #[.slice (some ⟨b, o, none⟩) S.ino.length p.c1, .slice p.a2 S.opn.length p.c2, .slice p.a3 S.made.length p.c3], .agg #[.int .i64 num, .bool d, .slice ae E.length ce, .string data]] W fun e w' => e = .returned (.bool true) ∧ Kept [] W w') := fun d W k => by
      have := r_entries (HSV.out.kept k) num d data ae ce E (HEA.out.kept k) HLE.out HI.out.e
      unfold sval at this
      rw [HHA.out] at this
      exact this
     have HLn : Hid (∀ W : World, Sv W p S → Calls Tryz.prog 13 #[.agg #[.slice (some ⟨b, o, none⟩) S.ino.length p.c1, .slice p.a2 S.opn.length p.c2, .slice p.a3 S.made.length p.c3], .int .i64 num] W fun e w' => e = .returned (.int .i64 ((linksR S.ino num : Nat) : Int)) ∧ Kept [] W w') := fun W k => by
      have := r_links k num (by omega)
      unfold sval at this
      rw [HHA.out] at this
      exact this
     have HGi : Hid (GivenP S.made num → ∀ W : World, Kept [] w W → Calls Tryz.prog 86 #[.agg #[.slice (some ⟨b, o, none⟩) S.ino.length p.c1, .slice p.a2 S.opn.length p.c2, .slice p.a3 S.made.length p.c3], .int .i64 num] W fun e w' => e = .returned (.bool true) ∧ Kept [] W w') := fun hg W k => by
      have := r_given (HSV.out.kept k) num HNM.out true (by simp [hg])
      unfold sval at this
      rw [HHA.out] at this
      exact this
     have q1 : ¬ (256 : Int) < (data.size : Int) := by have := HI.out.b; simp only at this; omega
     have q2 : decide ((256 : Int) < (data.size : Int)) = false := by simp only [decide_eq_false_iff_not]; exact q1
     have q3 : decide (256 < data.size) = false := by simp only [decide_eq_false_iff_not]; have := HI.out.b; simp only at this; omega
     have hen : Hid (EntsP S E) := HI.out.e
     by_cases hn0 : n = 0
     ·
      have HN0 : Hid (n = 0) := hn0
      have i2 : ¬ (0 : Int) < (n : Int) := by omega
      have i3 : decide ((0 : Int) < (n : Int)) = false := by simp only [decide_eq_false_iff_not]; exact i2
      have i4 : decide (0 < n) = false := by simp only [decide_eq_false_iff_not]; omega
      have hdir : dir = true := by
       obtain ⟨x, hx, -, hd⟩ := HM.out.i0
       have := HD.out
       rw [HN0.out, hx] at this
       have := Option.some.inj this
       subst this
       exact hd
      subst hdir
      have hde : Hid (data.toList = []) := HI.out.c rfl
      have hde2 : data.toList = [] := hde.out
      clear hn0
      refine wp_region_held_drew (S := fun w' => w'.cell? ⟨X, 0, none⟩ = some (.slice (some ⟨b, o, none⟩) S.ino.length p.c1) ∧ w'.cell? ⟨X, 1, none⟩ = some (.slice p.a2 S.opn.length p.c2) ∧ w'.cell? ⟨X, 2, none⟩ = some (.slice p.a3 S.made.length p.c3) ∧ w'.cell? ⟨Z, 0, none⟩ = some (.int .i64 num) ∧ w'.cell? ⟨Z, 1, none⟩ = some (.bool true) ∧ w'.cell? ⟨Z, 2, none⟩ = some (.slice ae E.length ce) ∧ w'.cell? ⟨Z, 3, none⟩ = some (.string data) ∧ w'.cell? ⟨b, o + (n - 1) * 4, none⟩ = some (.int .i64 pn)) (by kernel_rfl) ?_ (fun hHeld => ?_)
      · exact HC.out
      refine tkA 0 rfl ?_
      refine tkA 1 rfl ?_
      refine tkA 2 rfl ?_
      refine skA 3 rfl ?_
      refine skA 4 rfl ?_
      refine skA 5 rfl ?_
      refine skA 6 rfl ?_
      refine skA 7 rfl ?_
      refine skA 8 rfl ?_
      refine skA 9 rfl ?_
      refine skA 10 rfl ?_
      refine skA 11 rfl ?_
      refine skA 12 rfl ?_
      refine skA 13 rfl ?_
      refine skA 14 rfl ?_
      refine skA 15 rfl ?_
      refine skA 16 rfl ?_
      refine skA 17 rfl ?_
      refine skA 18 rfl ?_
      refine skA 19 rfl ?_
      refine tkA 20 rfl ?_
      refine tkA 21 rfl ?_
      refine tkA 22 rfl ?_
      refine tkA 23 rfl ?_
      refine tkA 24 rfl ?_
      refine tkA 25 rfl ?_
      refine tkA 26 rfl ?_
      refine tkA 27 rfl ?_
      refine tkA 28 rfl ?_
      refine tkA 29 rfl ?_
      refine tkA 30 rfl ?_
      refine tkA 31 rfl ?_
      refine tkA 32 rfl ?_
      refine tkA 33 rfl ?_
      refine tkA 34 rfl ?_
      refine tkA 35 rfl ?_
      refine tkA 36 rfl ?_
      refine tkA 37 rfl ?_
      refine tkA 38 rfl ?_
      refine tkA 39 rfl ?_
      refine tkA 40 rfl ?_
      refine skA 41 rfl ?_
      refine skA 42 rfl ?_
      refine skA 43 rfl ?_
      refine skA 44 rfl ?_
      refine tkA 45 rfl ?_
      refine tkA 46 rfl ?_
      refine tkA 47 rfl ?_
      refine tkA 48 rfl ?_
      refine tkA 49 rfl ?_
      refine wpAnyH_ready (rs := [50]) (by kernel_rfl) (by simp) ?_
      refine AllReadyH.cons rfl (fun K hK => ?_) AllReadyH.nil
      go_simp
      refine (HEn.out true _ HKD.out).mono ?_
      rintro e w5 ⟨rfl, k5⟩
      have z5 := cx_kept HC.out k5
      have HK5 : Hid (_) := k5
      clear k5
      go_wp2_with fail
      refine hK.out _ _ ?_ (fun hHeld => ?_)
      · exact z5
      clear hK K
      try simp only [Act.put, lz0, lz1, lz2, lz3, lz4, lz5]
      refine tkA 51 rfl ?_
      refine tkA 52 rfl ?_
      refine wpAnyH_done (by kernel_rfl) ?_ _
      have HZ5 : Hid (_) := z5
      have HB5 : Hid (_) := HB1.out.kept ((Kept.refl [] W1).drew.trans HK5.out (by simp))
      have HFB : Hid (_) := (((Kept.refl [] W1).drew.trans HK5.out (by simp)).block B (lt_of_heap HFD.out) (by simp)).trans HFD.out
      obtain ⟨c0, c1, c2, d0, d1, d2, d3, -⟩ := HZ5.out
      clear z5 HC
      go_wp2_with fail
      refine (HLn.out _ HB5.out.sv).mono ?_
      rintro e w6 ⟨rfl, k6⟩
      have e0 := k6.cell d0 (by simp)
      have e1 := k6.cell d1 (by simp)
      have HB6 : Hid (_) := HB5.out.kept k6
      have f0 := HB6.out.x0
      have f1 := HB6.out.x1
      have f2 := HB6.out.x2
      have HF6 : Hid (w6.heap[B]? = some (.cells (rowF S.ino.length fun j => .bool (F j)) 4 (0, 0))) := (k6.block B (lt_of_heap HFB.out) (by simp)).trans HFB.out
      have fd : w6.cell? ⟨B, n, none⟩ = some (.bool (F n)) := (cellB HF6.out).trans (rowF_get _ hlt)
      obtain ⟨lk, hlk⟩ : ∃ lk, linksR S.ino num = lk := ⟨_, rfl⟩
      have HLK : Hid (_) := hlk
      rw [hlk]
      clear hlk k6 c0 c1 c2 d0 d1 d2 d3 HZ5 HB5 HFB
      go_wp2_with fail
      go_roundw
      case rel => exact ⟨n + 1, by go_num, by omega, HB6.out, HF6.out⟩
      case measure => simp [intOf]; omega
     ·
      have hpos : (0 : Int) < (n : Int) := by omega
      have i3 : decide ((0 : Int) < (n : Int)) = true := by simp only [decide_eq_true_eq]; exact hpos
      have i4 : decide (0 < n) = true := by simp only [decide_eq_true_eq]; omega
      have v0 : (0 : Int) ≤ (n : Int) - 1 := by omega
      have v1 : (n : Int) - 1 < (S.ino.length : Int) := by omega
      have v3 : (1 : Int) ≤ (n : Int) := by omega
      have v2 : IntKind.i64.wrap ((n : Int) - 1) = (n : Int) - 1 := by rw [IntKind.wrap_i64]; omega
      obtain ⟨O, HO0, hpv⟩ := HPV.out (by omega)
      have hgv : Hid (GivenP S.made num) := (HI.out.a (by omega) _ HO0).2
      have hge : ¬ num ≤ pn := by have := (HI.out.a (by omega) _ HO0).1; simp only at this; omega
      have g2 : decide (num ≤ pn) = false := by simp only [decide_eq_false_iff_not]; exact hge
      clear HO0 hpv
      rcases dir with _ | _
      ·
       have hee : E = [] := HI.out.d rfl
       have p1 : ¬ (0 : Int) < (E.length : Int) := by rw [hee]; simp
       have p2 : decide ((0 : Int) < (E.length : Int)) = false := by simp only [decide_eq_false_iff_not]; exact p1
       have p3 : decide (0 < E.length) = false := by rw [hee]; simp
       clear hee
       refine wp_region_held_drew (S := fun w' => w'.cell? ⟨X, 0, none⟩ = some (.slice (some ⟨b, o, none⟩) S.ino.length p.c1) ∧ w'.cell? ⟨X, 1, none⟩ = some (.slice p.a2 S.opn.length p.c2) ∧ w'.cell? ⟨X, 2, none⟩ = some (.slice p.a3 S.made.length p.c3) ∧ w'.cell? ⟨Z, 0, none⟩ = some (.int .i64 num) ∧ w'.cell? ⟨Z, 1, none⟩ = some (.bool false) ∧ w'.cell? ⟨Z, 2, none⟩ = some (.slice ae E.length ce) ∧ w'.cell? ⟨Z, 3, none⟩ = some (.string data) ∧ w'.cell? ⟨b, o + (n - 1) * 4, none⟩ = some (.int .i64 pn)) (by kernel_rfl) ?_ (fun hHeld => ?_)
       · exact HC.out
       refine tkA 0 rfl ?_
       refine tkA 1 rfl ?_
       refine tkA 2 rfl ?_
       refine tkA 3 rfl ?_
       refine tkA 4 rfl ?_
       refine tkA 5 rfl ?_
       refine tkA 6 rfl ?_
       refine tkA 7 rfl ?_
       refine tkA 8 rfl ?_
       refine tkA 9 rfl ?_
       refine tkA 10 rfl ?_
       refine tkA 11 rfl ?_
       refine tkA 12 rfl ?_
       refine tkA 13 rfl ?_
       refine tkA 14 rfl ?_
       refine tkA 15 rfl ?_
       refine tkA 16 rfl ?_
       refine wpAnyH_ready (rs := [17]) (by kernel_rfl) (by simp) ?_
       refine AllReadyH.cons rfl (fun K hK => ?_) AllReadyH.nil
       go_simp
       refine (HGi.out hgv.out _ HKD.out).mono ?_
       rintro e w4 ⟨rfl, k4⟩
       have z4 := cx_kept HC.out k4
       have HK4 : Hid (_) := k4
       clear k4
       go_wp2_with fail
       refine hK.out _ _ ?_ (fun hHeld => ?_)
       · exact z4
       clear hK K
       try simp only [Act.put, lz0, lz1, lz2, lz3, lz4, lz5]
       refine tkA 18 rfl ?_
       refine tkA 19 rfl ?_
       refine tkA 20 rfl ?_
       refine tkA 21 rfl ?_
       refine tkA 22 rfl ?_
       refine tkA 23 rfl ?_
       refine tkA 24 rfl ?_
       refine tkA 25 rfl ?_
       refine tkA 26 rfl ?_
       refine tkA 27 rfl ?_
       refine tkA 28 rfl ?_
       refine tkA 29 rfl ?_
       refine tkA 30 rfl ?_
       refine skA 31 rfl ?_
       refine skA 32 rfl ?_
       refine skA 33 rfl ?_
       refine tkA 34 rfl ?_
       refine tkA 35 rfl ?_
       refine tkA 36 rfl ?_
       refine tkA 37 rfl ?_
       refine tkA 38 rfl ?_
       refine tkA 39 rfl ?_
       refine tkA 40 rfl ?_
       refine tkA 41 rfl ?_
       refine tkA 42 rfl ?_
       refine tkA 43 rfl ?_
       refine tkA 44 rfl ?_
       refine tkA 45 rfl ?_
       refine tkA 46 rfl ?_
       refine tkA 47 rfl ?_
       refine tkA 48 rfl ?_
       refine tkA 49 rfl ?_
       refine wpAnyH_ready (rs := [50]) (by kernel_rfl) (by simp) ?_
       refine AllReadyH.cons rfl (fun K hK => ?_) AllReadyH.nil
       go_simp
       refine (HEn.out false _ (HKD.out.trans HK4.out (by simp))).mono ?_
       rintro e w5 ⟨rfl, k5⟩
       have z5 := cx_kept HC.out (HK4.out.trans k5 (by simp))
       have HK5 : Hid (_) := (HK4.out.trans k5 (by simp))
       clear k5
       go_wp2_with fail
       refine hK.out _ _ ?_ (fun hHeld => ?_)
       · exact z5
       clear hK K
       try simp only [Act.put, lz0, lz1, lz2, lz3, lz4, lz5]
       refine tkA 51 rfl ?_
       refine tkA 52 rfl ?_
       refine wpAnyH_done (by kernel_rfl) ?_ _
       have HZ5 : Hid (_) := z5
       have HB5 : Hid (_) := HB1.out.kept ((Kept.refl [] W1).drew.trans HK5.out (by simp))
       have HFB : Hid (_) := (((Kept.refl [] W1).drew.trans HK5.out (by simp)).block B (lt_of_heap HFD.out) (by simp)).trans HFD.out
       obtain ⟨c0, c1, c2, d0, d1, d2, d3, -⟩ := HZ5.out
       clear z5 HC
       go_wp2_with fail
       refine (HLn.out _ HB5.out.sv).mono ?_
       rintro e w6 ⟨rfl, k6⟩
       have e0 := k6.cell d0 (by simp)
       have e1 := k6.cell d1 (by simp)
       have HB6 : Hid (_) := HB5.out.kept k6
       have f0 := HB6.out.x0
       have f1 := HB6.out.x1
       have f2 := HB6.out.x2
       have HF6 : Hid (w6.heap[B]? = some (.cells (rowF S.ino.length fun j => .bool (F j)) 4 (0, 0))) := (k6.block B (lt_of_heap HFB.out) (by simp)).trans HFB.out
       have fd : w6.cell? ⟨B, n, none⟩ = some (.bool (F n)) := (cellB HF6.out).trans (rowF_get _ hlt)
       obtain ⟨lk, hlk⟩ : ∃ lk, linksR S.ino num = lk := ⟨_, rfl⟩
       have HLK : Hid (_) := hlk
       rw [hlk]
       clear hlk k6 c0 c1 c2 d0 d1 d2 d3 HZ5 HB5 HFB
       rcases hFn : F n with _ | _
       ·
        rw [hFn] at fd
        have HOP2 : Hid (isOpenR S.opn num = true) := by
         rcases HI.out.g rfl with h | h
         · rw [← HFA.out n, hFn] at h; cases h
         · exact h
        go_wp2_with fail
        refine (r_isopen HB6.out.sv num).mono ?_
        rintro e w7 ⟨rfl, k7⟩
        rw [HOP2.out]
        have HB7 : Hid (_) := HB6.out.kept k7
        have HF7 : Hid (w7.heap[B]? = some (.cells (rowF S.ino.length fun j => .bool (F j)) 4 (0, 0))) := (k7.block B (lt_of_heap HF6.out) (by simp)).trans HF6.out
        clear k7
        go_wp2_with fail
        go_roundw
        case rel => exact ⟨n + 1, by go_num, by omega, HB7.out, HF7.out⟩
        case measure => simp [intOf]; omega
       ·
        rw [hFn] at fd
        go_wp2_with fail
        go_roundw
        case rel => exact ⟨n + 1, by go_num, by omega, HB6.out, HF6.out⟩
        case measure => simp [intOf]; omega
      ·
       have hde : Hid (data.toList = []) := HI.out.c rfl
       have hde2 : data.toList = [] := hde.out
       refine wp_region_held_drew (S := fun w' => w'.cell? ⟨X, 0, none⟩ = some (.slice (some ⟨b, o, none⟩) S.ino.length p.c1) ∧ w'.cell? ⟨X, 1, none⟩ = some (.slice p.a2 S.opn.length p.c2) ∧ w'.cell? ⟨X, 2, none⟩ = some (.slice p.a3 S.made.length p.c3) ∧ w'.cell? ⟨Z, 0, none⟩ = some (.int .i64 num) ∧ w'.cell? ⟨Z, 1, none⟩ = some (.bool true) ∧ w'.cell? ⟨Z, 2, none⟩ = some (.slice ae E.length ce) ∧ w'.cell? ⟨Z, 3, none⟩ = some (.string data) ∧ w'.cell? ⟨b, o + (n - 1) * 4, none⟩ = some (.int .i64 pn)) (by kernel_rfl) ?_ (fun hHeld => ?_)
       · exact HC.out
       refine tkA 0 rfl ?_
       refine tkA 1 rfl ?_
       refine tkA 2 rfl ?_
       refine tkA 3 rfl ?_
       refine tkA 4 rfl ?_
       refine tkA 5 rfl ?_
       refine tkA 6 rfl ?_
       refine tkA 7 rfl ?_
       refine tkA 8 rfl ?_
       refine tkA 9 rfl ?_
       refine tkA 10 rfl ?_
       refine tkA 11 rfl ?_
       refine tkA 12 rfl ?_
       refine tkA 13 rfl ?_
       refine tkA 14 rfl ?_
       refine tkA 15 rfl ?_
       refine tkA 16 rfl ?_
       refine wpAnyH_ready (rs := [17]) (by kernel_rfl) (by simp) ?_
       refine AllReadyH.cons rfl (fun K hK => ?_) AllReadyH.nil
       go_simp
       refine (HGi.out hgv.out _ HKD.out).mono ?_
       rintro e w4 ⟨rfl, k4⟩
       have z4 := cx_kept HC.out k4
       have HK4 : Hid (_) := k4
       clear k4
       go_wp2_with fail
       refine hK.out _ _ ?_ (fun hHeld => ?_)
       · exact z4
       clear hK K
       try simp only [Act.put, lz0, lz1, lz2, lz3, lz4, lz5]
       refine tkA 18 rfl ?_
       refine tkA 19 rfl ?_
       refine tkA 20 rfl ?_
       refine tkA 21 rfl ?_
       refine tkA 22 rfl ?_
       refine tkA 23 rfl ?_
       refine tkA 24 rfl ?_
       refine tkA 25 rfl ?_
       refine tkA 26 rfl ?_
       refine tkA 27 rfl ?_
       refine tkA 28 rfl ?_
       refine tkA 29 rfl ?_
       refine tkA 30 rfl ?_
       refine tkA 31 rfl ?_
       refine tkA 32 rfl ?_
       refine tkA 33 rfl ?_
       refine tkA 34 rfl ?_
       refine tkA 35 rfl ?_
       refine tkA 36 rfl ?_
       refine tkA 37 rfl ?_
       refine tkA 38 rfl ?_
       refine tkA 39 rfl ?_
       refine tkA 40 rfl ?_
       refine skA 41 rfl ?_
       refine skA 42 rfl ?_
       refine skA 43 rfl ?_
       refine skA 44 rfl ?_
       refine tkA 45 rfl ?_
       refine tkA 46 rfl ?_
       refine tkA 47 rfl ?_
       refine tkA 48 rfl ?_
       refine tkA 49 rfl ?_
       refine wpAnyH_ready (rs := [50]) (by kernel_rfl) (by simp) ?_
       refine AllReadyH.cons rfl (fun K hK => ?_) AllReadyH.nil
       go_simp
       refine (HEn.out true _ (HKD.out.trans HK4.out (by simp))).mono ?_
       rintro e w5 ⟨rfl, k5⟩
       have z5 := cx_kept HC.out (HK4.out.trans k5 (by simp))
       have HK5 : Hid (_) := (HK4.out.trans k5 (by simp))
       clear k5
       go_wp2_with fail
       refine hK.out _ _ ?_ (fun hHeld => ?_)
       · exact z5
       clear hK K
       try simp only [Act.put, lz0, lz1, lz2, lz3, lz4, lz5]
       refine tkA 51 rfl ?_
       refine tkA 52 rfl ?_
       refine wpAnyH_done (by kernel_rfl) ?_ _
       have HZ5 : Hid (_) := z5
       have HB5 : Hid (_) := HB1.out.kept ((Kept.refl [] W1).drew.trans HK5.out (by simp))
       have HFB : Hid (_) := (((Kept.refl [] W1).drew.trans HK5.out (by simp)).block B (lt_of_heap HFD.out) (by simp)).trans HFD.out
       obtain ⟨c0, c1, c2, d0, d1, d2, d3, -⟩ := HZ5.out
       clear z5 HC
       go_wp2_with fail
       refine (HLn.out _ HB5.out.sv).mono ?_
       rintro e w6 ⟨rfl, k6⟩
       have e0 := k6.cell d0 (by simp)
       have e1 := k6.cell d1 (by simp)
       have HB6 : Hid (_) := HB5.out.kept k6
       have f0 := HB6.out.x0
       have f1 := HB6.out.x1
       have f2 := HB6.out.x2
       have HF6 : Hid (w6.heap[B]? = some (.cells (rowF S.ino.length fun j => .bool (F j)) 4 (0, 0))) := (k6.block B (lt_of_heap HFB.out) (by simp)).trans HFB.out
       have fd : w6.cell? ⟨B, n, none⟩ = some (.bool (F n)) := (cellB HF6.out).trans (rowF_get _ hlt)
       obtain ⟨lk, hlk⟩ : ∃ lk, linksR S.ino num = lk := ⟨_, rfl⟩
       have HLK : Hid (_) := hlk
       rw [hlk]
       clear hlk k6 c0 c1 c2 d0 d1 d2 d3 HZ5 HB5 HFB
       have hl1 : lk = 1 := by rw [← HLK.out]; exact (HI.out.f (by omega) rfl).1
       subst hl1
       have hFn : F n = true := (HFA.out n).2 (HI.out.f (by omega) rfl).2
       rw [hFn] at fd
       go_wp2_with fail
       go_roundw
       case rel => exact ⟨n + 1, by go_num, by omega, HB6.out, HF6.out⟩
       case measure => simp [intOf]; omega
    ·
     have i1 : ¬ (n : Int) < (S.ino.length : Int) := by omega
     go_wp2_with fail
     go_ret
     exact ⟨rfl, HJ.out.1.k⟩
end Go.Proofs.YtffncojcnbhblaaGreatDoor
