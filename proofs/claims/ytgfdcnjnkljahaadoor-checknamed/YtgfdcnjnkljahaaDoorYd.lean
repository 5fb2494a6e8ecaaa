/-
  A look at a state is made.
-/
import Derived.Test.YtgfdcnjnkljahaaDoorYg
namespace Go.Proofs.YtgfdcnjnkljahaaDoor
open Go.RowKit Go.Lib Go.Maps
set_option linter.unusedVariables false

/-- Of each number its first inode's place. -/
def placeG (S : Sta) : Int → Option Int := plcG S.ino 0 (fun _ => none)

/-- Of each number how many entries of directories have it. -/
def entriesG (S : Sta) : Int → Option Int := entG S.ino (fun _ => none)

/-- Of each number how many descriptors have it. -/
def opensG (S : Sta) : Int → Option Int := fdsG S.opn (fun _ => none)

/-- Of each inode whether it is found from the root on. -/
def foundL (S : Sta) : List Bool := walkF 301 S.ino (placeG S) (finds (placeG S) 1 (List.replicate S.ino.length false, []))

theorem plc_ok (L : List Ino) : ∀ (i n : Nat) (g : Int → Option Int), Gok g i → i + L.length ≤ n → Gok (plcG L i g) n := by
  induction L with
  | nil => intro i n g hg hn k v hv; have := hg k v hv; simp at hn; omega
  | cons x L ih =>
    intro i n g hg hn
    rw [plcG]
    refine ih (i + 1) n _ ?_ (by simp at hn; omega)
    split
    · intro k v hv; have := hg k v hv; omega
    · intro k v hv
      unfold upM at hv
      split at hv
      · injection hv with hv; omega
      · have := hg k v hv; omega

theorem place_ok (S : Sta) : Gok (placeG S) S.ino.length := plc_ok S.ino 0 _ _ (fun k v hv => by cases hv) (by omega)

/-- A look is answered. -/
def Looks (w : World) (p : Pl) (S : Sta) (e : Ending) (w' : World) : Prop :=
  ∃ (h : Wh) (U : World) (n : Nat), e = .returned (.pointer (some ⟨h.X, 0, none⟩)) ∧ Kept [] w U ∧ Lk U w' h p S n (placeG S) (entriesG S) (opensG S) (foundL S)

set_option maxRecDepth 100000 in
set_option maxHeartbeats 16000000 in
theorem t_newLook {w : World} {p : Pl} {S : Sta} (h : Sv w p S) (hf : Few S) :
    Calls Tryd.prog 18 #[sval p S] w fun e w' => Looks w p S e w' := by
  obtain ⟨a1, c1, a2, c2, a3, c3⟩ := p
  have hx := h.boxed
  obtain ⟨U, B, HU⟩ : ∃ U B, Hid (w.alloc (sbox ⟨a1, c1, a2, c2, a3, c3⟩ S) = U ∧ w.heap.size = B) := ⟨_, _, rfl, rfl⟩
  rw [HU.out.1, HU.out.2] at hx
  have HC : Hid (Bx w U B ⟨a1, c1, a2, c2, a3, c3⟩ S) := hx
  have hn := hf.n1
  clear hx
  go_enter Tryd.func18, Tryd.ntmps18
  go_upto_region 1 with fail
  rw [HU.out.1, HU.out.2]
  clear HU
  have hmm : ∀ W : World, (Instr.makeSlice 54 (.int .i64 (S.ino.length : Int)) (.int .i64 (S.ino.length : Int))).run Tryd.prog W = .ok (.slice (some ⟨W.heap.size, 0, none⟩) S.ino.length S.ino.length) (W.alloc (.cells (bcs (List.replicate S.ino.length false)) 4 (0, 0))) := fun W => make_bools _ (by omega) W
  have hm2 := @run_makeMap Tryd.prog
  have HS : Hid (∀ w' : World, Kept [] U w' → Kept [] U w' ∧ w'.cell? ⟨B, 0, none⟩ = some (.slice a1 S.ino.length c1) ∧ w'.cell? ⟨B, 1, none⟩ = some (.slice a2 S.opn.length c2) ∧ w'.cell? ⟨B, 2, none⟩ = some (.slice a3 S.made.length c3)) := fun w' k => ⟨k, k.cell HC.out.x0 (by simp), k.cell HC.out.x1 (by simp), k.cell HC.out.x2 (by simp)⟩
  refine Code.wp_mono (Q := fun e a w' => e = Exit.normal ∧ ∃ h : Wh, a = { tmps := #[sval ⟨a1, c1, a2, c2, a3, c3⟩ S, .pointer (some ⟨B, 0, none⟩), .pointer none, .pointer (some ⟨h.X, 0, none⟩), undef, undef, undef, undef, undef, undef, .agg #[.slice a1 S.ino.length c1, .slice a2 S.opn.length c2, .slice a3 S.made.length c3], .map (some h.b1), .map (some h.b2), .map (some h.b3), .pointer (some ⟨B, 0, none⟩), .slice a1 S.ino.length c1, .int .i64 (S.ino.length : Int), .slice (some ⟨h.bf, 0, none⟩) S.ino.length S.ino.length, .agg #[.slice a1 S.ino.length c1, .slice a2 S.opn.length c2, .slice a3 S.made.length c3, .map (some h.b1), .map (some h.b2), .map (some h.b3), .slice (some ⟨h.bf, 0, none⟩) S.ino.length S.ino.length, .slice none 0 0], .pointer (some ⟨h.X, 0, none⟩), undef, undef, undef, undef, undef, undef, undef, undef, undef, undef, undef, undef, undef, undef, undef, undef, undef, undef, undef, undef, undef, undef, undef, undef, undef, undef, undef, undef, undef, undef, undef, undef, undef, undef, undef, undef, undef, undef, undef, undef, undef, undef, undef, undef, undef, undef, undef, undef, undef, undef, undef, undef, undef, undef, undef, undef], defers := [] } ∧ Hid (Lk U w' h ⟨a1, c1, a2, c2, a3, c3⟩ S 0 (fun _ => none) (fun _ => none) (fun _ => none) (List.replicate S.ino.length false))) ?imp ?reg
  case reg =>
    go_region_held3 (fun w' => Kept [] U w' ∧ w'.cell? ⟨B, 0, none⟩ = some (.slice a1 S.ino.length c1) ∧ w'.cell? ⟨B, 1, none⟩ = some (.slice a2 S.opn.length c2) ∧ w'.cell? ⟨B, 2, none⟩ = some (.slice a3 S.made.length c3)) (first | exact HS.out _ (Kept.drew (Kept.refl _ _)) | exact HS.out _ (Kept.drew (Kept.alloc (Kept.refl _ _) _)) | exact HS.out _ (Kept.drew (Kept.alloc (Kept.alloc (Kept.refl _ _) _) _)) | exact HS.out _ (Kept.drew (Kept.alloc (Kept.alloc (Kept.alloc (Kept.refl _ _) _) _) _)) | exact HS.out _ (Kept.drew (Kept.alloc (Kept.alloc (Kept.alloc (Kept.alloc (Kept.refl _ _) _) _) _) _)) | exact HS.out _ (Kept.drew (Kept.alloc (Kept.alloc (Kept.alloc (Kept.alloc (Kept.alloc (Kept.refl _ _) _) _) _) _) _))) (fail)
    all_goals
      refine ⟨rfl, ⟨_, _, _, _, _⟩, rfl, ?_⟩
      refine lk_any (Kept.refl _ _) (five _ _ _ _ _ _).1.drew ?_ ?_ ?_ ?_ ?_ ?_ ?_ ?_
      any_goals (first | exact (five _ _ _ _ _ _).2.1 | exact (five _ _ _ _ _ _).2.2.1 | exact (five _ _ _ _ _ _).2.2.2.1 | exact (five _ _ _ _ _ _).2.2.2.2.1 | exact (five _ _ _ _ _ _).2.2.2.2.2)
      · refine ⟨?_, ?_, ?_, ?_, ?_⟩ <;> (try simp) <;> (try omega)
      · refine ⟨?_, ?_, ?_⟩ <;> (try simp) <;> (try omega)
      · (try simp) <;> (try omega)
  case imp =>
    rintro e a w1 ⟨rfl, h1, rfl, HL⟩
    have HF : Hid (Few S) := hf
    have HB : Hid (Bx w U B ⟨a1, c1, a2, c2, a3, c3⟩ S) := HC.out
    have x0 : w1.cell? ⟨B, 0, none⟩ = some (.slice a1 S.ino.length c1) := HL.out.kept.cell HB.out.x0 (by simp)
    clear hmm hm2 HS hf h HC
    go_wp2_with fail
    clear x0
    go_loopw [23] (fun i wr => ∃ (n : Nat) (g1 g2 : Int → Option Int), i = .int .i64 (n : Int) ∧ n ≤ S.ino.length ∧ Hid (Lk U wr h1 ⟨a1, c1, a2, c2, a3, c3⟩ S (n * 200) g1 g2 (fun _ => none) (List.replicate S.ino.length false) ∧ Cn g2 (n * 200) ∧ plcG (S.ino.drop n) n g1 = plcG S.ino 0 (fun _ => none) ∧ entG (S.ino.drop n) g2 = entG S.ino (fun _ => none))) (fun i _ => (S.ino.length - intOf i).toNat)
    case atStart => exact ⟨0, _, _, rfl, by omega, HL.out, fun k => by simp, rfl, rfl⟩
    case round =>
      obtain ⟨n, g1, g2, rfl, hnl, HJ⟩ := hrel
      by_cases hlt : n < S.ino.length
      · obtain ⟨hL, hC, hP, hE⟩ := HJ.out
        obtain ⟨b, o, ae, ce, ea, i0, i1, i2, i3, i4, i5, -⟩ := HB.out.sv.ino n hlt
        have i0 := hL.kept.cell i0 (by simp)
        have i1 := hL.kept.cell i1 (by simp)
        have i2 := hL.kept.cell i2 (by simp)
        have i3 := hL.kept.cell i3 (by simp)
        obtain ⟨x, hx⟩ : ∃ x, x = S.ino[n] := ⟨_, rfl⟩
        have hxm : x ∈ S.ino := by rw [hx]; exact List.getElem_mem hlt
        rw [← hx] at i0 i1 i2 i3 i4 i5
        have hd : S.ino.drop n = x :: S.ino.drop (n + 1) := by rw [hx]; exact List.drop_eq_getElem_cons hlt
        rw [hd] at hP hE
        have HP : Hid (plcG (S.ino.drop (n + 1)) (n + 1) (if (g1 x.num).isSome then g1 else upM g1 x.num (n : Int)) = plcG S.ino 0 (fun _ => none)) := hP
        have HE : Hid (entG (S.ino.drop (n + 1)) (entE (entsOfI x) g2) = entG S.ino (fun _ => none)) := hE
        have HX : Hid (x ∈ S.ino) := hxm
        have HC2 : Hid (Cn g2 (n * 200)) := hC
        obtain ⟨V, Y, HVY, kv, b1⟩ := one_box wr #[.int .i64 x.num, .bool x.dir, .slice ae x.ents.length ce, .string x.data] 31
        have hL2 := hL.same kv
        have HL2 : Hid (Lk U V h1 ⟨a1, c1, a2, c2, a3, c3⟩ S (n * 200) g1 g2 (fun _ => none) (List.replicate S.ino.length false)) := hL2
        have HY : Hid (V.heap[Y]? = some (.cells #[.int .i64 x.num, .bool x.dir, .slice ae x.ents.length ce, .string x.data] 31 (0, 0))) := b1
        have HEn : Hid (EntA U ae x.ents ∧ x.ents.length ≤ ce) := ⟨i4, i5⟩
        have wx : Wf x.num := HF.out.w1 x hxm
        have q3 : V.cell? ⟨h1.X, 3, none⟩ = some (.map (some h1.b1)) := by rw [cellB hL2.blk]; rfl
        have y0 : V.cell? ⟨Y, 0, none⟩ = some (.int .i64 x.num) := cellB b1
        have HYX : Hid (U.heap.size ≤ Y) := by
          have := hL.kept.size
          have e : wr.heap.size = Y := HVY.out.2
          show _ ≤ _; omega
        have HW : Hid (Wf x.num) := wx
        dsimp only at ea
        subst ea
        have n0 : (0 : Int) ≤ (n : Int) := by omega
        have n1 : (n : Int) < (S.ino.length : Int) := by omega
        clear hP hE hd hx hxm hL hL2 kv b1 i4 hC wx HJ
        go_upto_region 5 with fail
        rw [HVY.out.1, HVY.out.2]
        clear HVY i0 i1 i2 i3
        go_wp2_with fail
        refine (t_isThere q3 HL2.out.m1 x.num HW.out).mono ?_
        rintro e w5 ⟨rfl, hw5⟩
        have hw6 := hw5.symm
        subst hw6
        clear hw5
        generalize (g1 x.num).isSome = t at HP ⊢
        go_upto_if 32 with fail
        go_cut [] from 33 to 39 (fun wx => Hid (Lk U wx h1 ⟨some ⟨b, o, none⟩, c1, a2, c2, a3, c3⟩ S (n * 200 + 1) (if t then g1 else upM g1 x.num (n : Int)) g2 (fun _ => none) (List.replicate S.ino.length false) ∧ Kept [h1.b1] V wx))
        case first =>
          cases t
          · have hL3 := HL2.out.same ((Kept.refl [] V).drew)
            obtain ⟨w6, hr6, m6, k6⟩ := hL3.m1.put (by omega) HW.out (v := (n : Int)) (wf_of (by omega) (by omega))
            have HM6 : Hid (Lk U w6 h1 ⟨some ⟨b, o, none⟩, c1, a2, c2, a3, c3⟩ S (n * 200 + 1) (upM g1 x.num (n : Int)) g2 (fun _ => none) (List.replicate S.ino.length false) ∧ Kept [h1.b1] V w6) := ⟨hL3.put1 m6 k6, ((Kept.refl [h1.b1] V).drew).trans k6 (fun x hx => Or.inl hx)⟩
            clear m6 k6 hL3
            go_upto_region 6 with fail
            go_region
            go_wp2_with fail
            go_meet
            case rel => exact HM6.out
          · go_wp2_with fail
            go_meet
            case rel => exact ⟨(HL2.out.mono (by omega)), (Kept.refl _ _)⟩
        case rest =>
          obtain ⟨hLc, hkc⟩ := hcut.out
          have hyc : wc.heap[Y]? = some (.cells #[.int .i64 x.num, .bool x.dir, .slice ae x.ents.length ce, .string x.data] 31 (0, 0)) := by
            rw [hkc.block Y (lt_of_heap HY.out) (by simp; intro e; have := hLc.m1.block; have := HYX.out; subst e; have hy := HY.out; obtain ⟨D, ⟨es, cl, hm, -⟩, -⟩ := HL2.out.m1; rw [hm] at hy; cases hy)]; exact HY.out
          obtain ⟨aE, cE, hv, hEA, hcE⟩ : ∃ aE cE, (if x.dir = true then Value.slice ae x.ents.length ce else .slice none 0 0) = .slice aE (entsOfI x).length cE ∧ EntA U aE (entsOfI x) ∧ (entsOfI x).length ≤ cE := by
            unfold entsOfI
            cases x.dir
            · exact ⟨none, 0, rfl, fun i hi => by simp at hi, by simp⟩
            · exact ⟨ae, ce, rfl, HEn.out.1, HEn.out.2⟩
          have HEA : Hid (EntA U aE (entsOfI x)) := hEA
          have HLc : Hid (Lk U wc h1 ⟨some ⟨b, o, none⟩, c1, a2, c2, a3, c3⟩ S (n * 200 + 1) (if t then g1 else upM g1 x.num (n : Int)) g2 (fun _ => none) (List.replicate S.ino.length false)) := hLc
          have hEl : (entsOfI x).length ≤ 100 := by
            unfold entsOfI; cases x.dir
            · simp
            · exact HF.out.e1 x HX.out
          have HEw : Hid (∀ e ∈ entsOfI x, Wf e.2) := by
            unfold entsOfI; cases x.dir
            · intro e he; simp at he
            · exact HF.out.w2 x HX.out
          have HV0 : Hid (_ = _) := hv
          obtain ⟨G1, hG1⟩ : ∃ G1, G1 = (if t then g1 else upM g1 x.num (n : Int)) := ⟨_, rfl⟩
          rw [← hG1] at HLc HP
          generalize hEE : entsOfI x = E at *
          have z0 : wc.cell? ⟨Y, 0, none⟩ = some (.int .i64 x.num) := cellB hyc
          have z1 : wc.cell? ⟨Y, 1, none⟩ = some (.bool x.dir) := cellB hyc
          have z2 : wc.cell? ⟨Y, 2, none⟩ = some (.slice ae x.ents.length ce) := cellB hyc
          have z3 : wc.cell? ⟨Y, 3, none⟩ = some (.string x.data) := cellB hyc
          clear hLc hkc hyc hEA hv hG1 hEE hcut HY q3 y0 HL2 HEn i5
          go_wp2_with fail
          refine (t_entriesOf x.num x.dir ae x.ents.length ce x.data _).mono ?_
          rintro e w7 ⟨rfl, k7⟩
          rw [HV0.out]
          have HL7 : Hid (_) := HLc.out.same k7
          clear k7 z0 z1 z2 z3 HLc
          go_wp2_with fail
          go_loopw [43] (fun i wr => ∃ (j : Nat) (gg : Int → Option Int), i = .int .i64 (j : Int) ∧ j ≤ E.length ∧ Hid (Lk U wr h1 ⟨some ⟨b, o, none⟩, c1, a2, c2, a3, c3⟩ S (n * 200 + 1 + j) G1 gg (fun _ => none) (List.replicate S.ino.length false) ∧ Cn gg (n * 200 + 1 + j) ∧ entE (E.drop j) gg = entE E g2)) (fun i _ => (E.length - intOf i).toNat)
          case atStart => exact ⟨0, g2, rfl, by omega, HL7.out, HC2.out.mono (by omega), rfl⟩
          case round =>
            obtain ⟨j, gg, rfl, hj, HJ2⟩ := hrel
            by_cases hlj : j < E.length
            · obtain ⟨hL, hC, hE2⟩ := HJ2.out
              obtain ⟨be, oe, ee, t0, t1⟩ := HEA.out j hlj
              have t0 := hL.kept.cell t0 (by simp)
              have t1 := hL.kept.cell t1 (by simp)
              obtain ⟨y, hy⟩ : ∃ y, y = E[j] := ⟨_, rfl⟩
              have hwy : Wf y.2 := by rw [hy]; exact HEw.out _ (List.getElem_mem hlj)
              rw [← hy] at t0 t1
              have hd : E.drop j = y :: E.drop (j + 1) := by rw [hy]; exact List.drop_eq_getElem_cons hlj
              rw [hd] at hE2
              have HE2 : Hid (entE (E.drop (j + 1)) (upM gg y.2 ((gg y.2).getD 0 + 1)) = entE E g2) := hE2
              have HC3 : Hid (Cn (upM gg y.2 ((gg y.2).getD 0 + 1)) (n * 200 + 1 + j + 1)) := hC.up y.2
              obtain ⟨V2, Z, HZ, kz, bz⟩ := one_box wr #[.string y.1, .int .i64 y.2] 33
              have hLz := hL.same kz
              have hL2 := hLz.same ((Kept.refl [] V2).drew)
              have hlook := hL2.m2.look hwy
              obtain ⟨w9, hr9, m9, k9⟩ := hL2.m2.put (by omega) hwy (hC.wf (by omega) y.2)
              have HL9 : Hid (Lk U w9 h1 ⟨some ⟨b, o, none⟩, c1, a2, c2, a3, c3⟩ S (n * 200 + 1 + j + 1) G1 (upM gg y.2 ((gg y.2).getD 0 + 1)) (fun _ => none) (List.replicate S.ino.length false)) := hL2.put2 m9 k9
              have q4 : V2.cell? ⟨h1.X, 4, none⟩ = some (.map (some h1.b2)) := by rw [cellB hLz.blk]; rfl
              have z1 : V2.cell? ⟨Z, 1, none⟩ = some (.int .i64 y.2) := cellB bz
              have ew : IntKind.i64.wrap ((gg y.2).getD 0 + 1) = (gg y.2).getD 0 + 1 := by have := hC y.2; rw [IntKind.wrap_i64]; omega
              have ew2 : wrap64 ((gg y.2).getD 0 + 1) = (gg y.2).getD 0 + 1 := by have := hC y.2; unfold wrap64; omega
              obtain ⟨cu, hcu⟩ : ∃ cu, cu = (gg y.2).getD 0 := ⟨_, rfl⟩
              rw [← hcu] at hlook hr9 ew ew2
              clear hcu hLz
              subst ee
              have j0 : (0 : Int) ≤ (j : Int) := by omega
              have j1 : (j : Int) < (E.length : Int) := by omega
              clear hL hC hE2 hy hd kz bz hL2 m9 k9 HJ2 hwy HL7
              go_upto_region 10 with fail
              rw [HZ.out.1, HZ.out.2]
              clear HZ t0 t1
              go_region
              clear hlook hr9 q4 z1 ew ew2
              go_wp2_with fail
              go_roundw
              case rel => exact ⟨j + 1, _, by go_num, by omega, HL9.out, HC3.out, HE2.out⟩
              case measure => simp [intOf]; omega
            · obtain ⟨hL, hC, hE2⟩ := HJ2.out
              have ej : j = E.length := by omega
              have hg : gg = entE E g2 := by rw [← hE2, ej, List.drop_length]; rfl
              have HLn : Hid (Lk U wr h1 ⟨some ⟨b, o, none⟩, c1, a2, c2, a3, c3⟩ S ((n + 1) * 200) G1 gg (fun _ => none) (List.replicate S.ino.length false)) := hL.mono (by omega)
              have HCn : Hid (Cn gg ((n + 1) * 200)) := hC.mono (by omega)
              have HEn2 : Hid (entG (S.ino.drop (n + 1)) gg = entG S.ino (fun _ => none)) := by show _ = _; rw [hg]; exact HE.out
              have j1 : ¬ (j : Int) < (E.length : Int) := by omega
              clear hL hC hE2 ej hg HJ2 HL7
              go_wp2_with fail
              go_roundw
              case rel => exact ⟨n + 1, G1, gg, by go_num, by omega, HLn.out, HCn.out, HP.out, HEn2.out⟩
              case measure => simp [intOf]; omega
      · obtain ⟨hL, hC, hP, hE⟩ := HJ.out
        have en : n = S.ino.length := by omega
        have h1g : g1 = plcG S.ino 0 (fun _ => none) := by rw [← hP, en, List.drop_length]; rfl
        have h2g : g2 = entG S.ino (fun _ => none) := by rw [← hE, en, List.drop_length]; rfl
        have HL3 : Hid (Lk U wr h1 ⟨a1, c1, a2, c2, a3, c3⟩ S (n * 200) (plcG S.ino 0 (fun _ => none)) (entG S.ino (fun _ => none)) (fun _ => none) (List.replicate S.ino.length false)) := by rw [← h1g, ← h2g]; exact hL
        have x1 : wr.cell? ⟨B, 1, none⟩ = some (.slice a2 S.opn.length c2) := hL.kept.cell HB.out.x1 (by simp)
        have n1 : ¬ (n : Int) < (S.ino.length : Int) := by omega
        have hnm : n ≤ 100 := by omega
        clear hL hC hP hE en h1g h2g HJ
        go_wp2_with fail
        clear x1 n1
        go_loopw [60] (fun i wr => ∃ (j : Nat) (gg : Int → Option Int), i = .int .i64 (j : Int) ∧ j ≤ S.opn.length ∧ Hid (Lk U wr h1 ⟨a1, c1, a2, c2, a3, c3⟩ S (n * 200 + j) (plcG S.ino 0 (fun _ => none)) (entG S.ino (fun _ => none)) gg (List.replicate S.ino.length false) ∧ Cn gg j ∧ fdsG (S.opn.drop j) gg = fdsG S.opn (fun _ => none))) (fun i _ => (S.opn.length - intOf i).toNat)
        case atStart => exact ⟨0, _, rfl, by omega, HL3.out, fun k => by simp, rfl⟩
        case round =>
          obtain ⟨j, gg, rfl, hj, HJ2⟩ := hrel
          have hj100 : S.opn.length ≤ 100 := HF.out.n2
          by_cases hlj : j < S.opn.length
          · obtain ⟨hL, hC, hE2⟩ := HJ2.out
            obtain ⟨be, oe, ee, t0, t1, t2⟩ := HB.out.sv.des j hlj
            have t0 := hL.kept.cell t0 (by simp)
            have t1 := hL.kept.cell t1 (by simp)
            have t2 := hL.kept.cell t2 (by simp)
            obtain ⟨y, hy⟩ : ∃ y, y = S.opn[j] := ⟨_, rfl⟩
            have hwy : Wf y.2.2 := by rw [hy]; exact HF.out.w3 _ (List.getElem_mem hlj)
            rw [← hy] at t0 t1 t2
            have hd : S.opn.drop j = y :: S.opn.drop (j + 1) := by rw [hy]; exact List.drop_eq_getElem_cons hlj
            rw [hd] at hE2
            have HE2 : Hid (fdsG (S.opn.drop (j + 1)) (upM gg y.2.2 ((gg y.2.2).getD 0 + 1)) = fdsG S.opn (fun _ => none)) := hE2
            have HC3 : Hid (Cn (upM gg y.2.2 ((gg y.2.2).getD 0 + 1)) (j + 1)) := hC.up y.2.2
            obtain ⟨V2, Z, HZ, kz, bz⟩ := one_box wr #[.int .i64 y.1, .int .i64 y.2.1, .int .i64 y.2.2] 35
            have hLz := hL.same kz
            have hL2 := hLz.same ((Kept.refl [] V2).drew)
            have hlook := hL2.m3.look hwy
            obtain ⟨w9, hr9, m9, k9⟩ := hL2.m3.put (by omega) hwy (hC.wf (by omega) y.2.2)
            have HL9 : Hid (_) := hL2.put3 m9 k9
            have q5 : V2.cell? ⟨h1.X, 5, none⟩ = some (.map (some h1.b3)) := by rw [cellB hLz.blk]; rfl
            have z1 : V2.cell? ⟨Z, 2, none⟩ = some (.int .i64 y.2.2) := cellB bz
            have ew : IntKind.i64.wrap ((gg y.2.2).getD 0 + 1) = (gg y.2.2).getD 0 + 1 := by have := hC y.2.2; rw [IntKind.wrap_i64]; omega
            have ew2 : wrap64 ((gg y.2.2).getD 0 + 1) = (gg y.2.2).getD 0 + 1 := by have := hC y.2.2; unfold wrap64; omega
            obtain ⟨cu, hcu⟩ : ∃ cu, cu = (gg y.2.2).getD 0 := ⟨_, rfl⟩
            rw [← hcu] at hlook hr9 ew ew2
            clear hcu hLz
            dsimp only at ee
            subst ee
            have j0 : (0 : Int) ≤ (j : Int) := by omega
            have j1 : (j : Int) < (S.opn.length : Int) := by omega
            clear hL hC hE2 hy hd kz bz hL2 m9 k9 HJ2 hwy HL3
            go_upto_region 16 with fail
            rw [HZ.out.1, HZ.out.2]
            clear HZ t0 t1 t2
            go_region
            clear hlook hr9 q5 z1 ew ew2
            go_wp2_with fail
            go_roundw
            case rel => exact ⟨j + 1, _, by go_num, by omega, HL9.out, HC3.out, HE2.out⟩
            case measure => simp [intOf]; omega
          · obtain ⟨hL, hC, hE2⟩ := HJ2.out
            have ej : j = S.opn.length := by omega
            have hg3 : gg = opensG S := by unfold opensG; rw [← hE2, ej, List.drop_length]; rfl
            have HL4 : Hid (Lk U wr h1 ⟨a1, c1, a2, c2, a3, c3⟩ S (n * 200 + j) (placeG S) (entriesG S) (opensG S) (List.replicate S.ino.length false)) := by rw [← hg3]; exact hL
            have j1 : ¬ (j : Int) < (S.opn.length : Int) := by omega
            clear hL hC hE2 ej hg3 HJ2 HL3
            go_wp2_with fail
            refine (t_walk HL4.out HB.out.sv HF.out (place_ok S) (by simp)).mono ?_
            rintro e w9 ⟨rfl, h9⟩
            have HT9 : Hid (Lk U w9 h1 ⟨a1, c1, a2, c2, a3, c3⟩ S (n * 200 + j) (placeG S) (entriesG S) (opensG S) (foundL S)) := h9
            clear h9
            go_wp2_with fail
            go_ret
            exact ⟨h1, U, _, rfl, HB.out.k, HT9.out⟩

end Go.Proofs.YtgfdcnjnkljahaaDoor
