/-
  PathParses: Parse of any text as the document asks, twice, the first answer's memory its own; its code.
-/
import Derived.Test.YtffmfgjinpigeaaDoorRows
import Derived.Test.YtffmfgjinpigeaaDoorCards
import Derived.Test.YtffmfgjinpigeaaDoorTie
import Derived.Test.YtffmfgjinpigeaaDoorSt
import Derived.WalkKit
import Derived.ProofKit
import Derived.OpenShut
import Derived.ShutString
import Derived.ChangeOld
import Derived.Below
import Derived.Deep.Slices
import Derived.LaidMore
import Derived.Lay
import Derived.SizedLaws
import Derived.Laws.BytesArg
import Derived.Stop.Joined
import Derived.SevenTiedAt
namespace Go.Proofs.YtffmfgjinpigeaaDoor.pathParses
open Go.ChangeShapes Go.WideShapes Go.ChangeAt Go.RowKit
open Go.ChangeMaps (open_string shut_string)
set_option linter.unusedVariables false

theorem block_set {w : World} {b i : Nat} {cs : Array Value} {t : TypeId} (h : w.heap[b]? = some (.cells cs t (0, 0))) (v : Value) : (w.setCell ⟨b, i, none⟩ v).heap[b]? = some (.cells (cs.setIfInBounds i v) t (0, 0)) := by
  simp [World.setCell, Array.getElem?_modify, h]

/-- Where a row of a call's own lies. -/
theorem row_blk {w : World} {H : Nat} {a : Option Addr} {n c : Nat} {xs : List ByteArray} (h : Sr w H (.slice a n c) xs) : ∀ x, a = some x → H ≤ x.block ∧ x.block < w.heap.size ∧ x.off = 0 ∧ ∃ cur, w.heap[x.block]? = some (.cells cur 9 (0, 0)) ∧ n ≤ cur.size := by
  intro x hx
  rcases h.2 with ⟨h1, -⟩ | ⟨g, cap, cur, h1, hb, hgg, h4, h5, h6, h7⟩
  · rw [Value.slice.injEq] at h1
    rw [h1.1] at hx
    cases hx
  · rw [Value.slice.injEq] at h1
    rw [h1.1] at hx
    cases hx
    exact ⟨hb, lt_of_heap hgg, rfl, cur, hgg, by omega⟩

set_option maxRecDepth 100000 in
set_option maxHeartbeats 4000000 in
theorem walk (s : ByteArray) (w : World) (hT : Tab w) (hs : s.size ≤ 140737488351232) :
    Calls Tryd.prog 3 #[.string s] w fun e w' => e = .returned (.bool true) ∧ Below w.heap.size w w' := by
  have HT : Hid (Tab w) := hT
  have hcode := parse_code s
  have hfew := (parse_few s).1
  obtain ⟨⟨xs, x⟩, hx⟩ : ∃ p, parseR s = p := ⟨_, rfl⟩
  rw [hx] at hcode hfew
  simp only [] at hcode hfew
  have HX : Hid (parseR s = (xs, x)) := hx
  clear hT hx
  go_enter Tryd.func3, Tryd.ntmps3
  go_wp2_with fail
  refine (p_parse s w HT.out).mono ?_
  rintro e w1 ⟨v, he, hS, hk⟩
  rw [HX.out] at he hS
  simp only [] at he hS
  subst he
  obtain ⟨a1, c1, hv, hr1, hb1⟩ := hS.read
  obtain ⟨n, hn⟩ : ∃ n, xs.length = n := ⟨_, rfl⟩
  rw [hn] at hv hfew
  subst hv
  have HN : Hid (n = xs.length) := hn.symm
  have H1 : Hid (Sr w1 w.heap.size (.slice a1 n c1) xs ∧ Ss w1 a1 xs ∧ (∀ x, a1 = some x → w.heap.size ≤ x.block) ∧ Kept [] w w1 ∧ Tab w1) := ⟨hS, hr1, hb1, hk, HT.out.kept hk⟩
  clear hS hr1 hb1 hk hn
  go_wp2_with fail
  refine (p_parse s w1 H1.out.2.2.2.2).mono ?_
  rintro e w2 ⟨v, he, hS, hk⟩
  rw [HX.out] at he hS
  simp only [] at he hS
  subst he
  obtain ⟨a2, c2, hv, hr2, hb2⟩ := hS.read
  rw [← HN.out] at hv
  subst hv
  have H2 : Hid (Sr w2 w1.heap.size (.slice a2 n c2) xs ∧ Ss w2 a2 xs ∧ (∀ x, a2 = some x → w1.heap.size ≤ x.block) ∧ Kept [] w1 w2 ∧ Tab w2) := ⟨hS, hr2, hb2, hk, H1.out.2.2.2.2.kept hk⟩
  clear hS hr2 hb2 hk
  go_wp2_with fail
  refine (f_parse s w2).mono ?_
  rintro e w3 ⟨v, he, hS, hk⟩
  rw [HX.out] at he hS
  simp only [] at he hS
  subst he
  obtain ⟨a3, c3, hv, hr3, hb3⟩ := hS.read
  rw [← HN.out] at hv
  subst hv
  have H3 : Hid (Ss w3 a3 xs ∧ (∀ x, a3 = some x → w2.heap.size ≤ x.block) ∧ Kept [] w2 w3 ∧ Tab w3) := ⟨hr3, hb3, hk, H2.out.2.2.2.2.kept hk⟩
  have hk13 : Kept [] w1 w3 := H2.out.2.2.2.1.trans hk (by simp)
  clear hS hr3 hb3 hk
  go_wp2_with fail
  refine (same_texts _ _ _ _ _ _ xs xs w3 HN.out HN.out (H1.out.2.1.kept hk13) H3.out.1).mono ?_
  rintro e w4 ⟨rfl, q, hw⟩
  rw [show decide (xs = xs) = true from decide_eq_true rfl]
  subst hw
  clear hk13
  go_wp2_with fail
  refine (num_of _ _).mono ?_
  rintro e w5 ⟨rfl, hw⟩
  subst hw
  go_wp2_with fail
  refine (num_of _ _).mono ?_
  rintro e w5 ⟨rfl, hw⟩
  subst hw
  go_wp2_with fail
  refine (p_code x hcode _).mono ?_
  rintro e w5 ⟨rfl, hw⟩
  subst hw
  go_wp2_with fail
  refine (f_code x hcode _).mono ?_
  rintro e w5 ⟨rfl, hw⟩
  subst hw
  obtain ⟨z, hz⟩ : ∃ z, codeR x = z := ⟨_, rfl⟩
  rw [hz]
  clear hz
  obtain ⟨F, hF⟩ : ∃ F : List Nat, F = (a1.map (·.block)).toList := ⟨_, rfl⟩
  have hF1 : ∀ k ∈ F, w.heap.size ≤ k ∧ k < w1.heap.size := fun k hk => by
    rw [hF] at hk
    cases ha : a1 with
    | none => rw [ha] at hk; simp at hk
    | some y =>
      rw [ha] at hk
      simp at hk
      subst hk
      have := row_blk H1.out.1 y ha
      exact ⟨this.1, this.2.1⟩
  have HL : Hid (∀ wr : World, Kept F (w3.drewN q) wr → Ss wr a2 xs ∧ Ss wr a3 xs ∧ Tab wr ∧ Kept [] w wr) := by
    show ∀ wr : World, _
    intro wr hkr
    have g2 : Ss (w3.drewN q) a2 xs := (H2.out.2.1.kept H3.out.2.2.1).drewN q
    have g3 : Ss (w3.drewN q) a3 xs := H3.out.1.drewN q
    have hs12 := H2.out.2.2.2.1.size
    have hs23 := H3.out.2.2.1.size
    have hk3 : Kept [] w (w3.drewN q) := ((H1.out.2.2.2.1.trans H2.out.2.2.2.1 (by simp)).trans H3.out.2.2.1 (by simp)).drewN q
    have hkw : Kept [] w wr := hk3.trans hkr fun y hy => Or.inr (hF1 y hy).1
    refine ⟨?_, ?_, HT.out.kept hkw, hkw⟩
    · by_cases hxs : xs = []
      · rw [hxs]; exact Ss.none
      · exact g2.same fun y hy => hkr.block _ (g2.lt hxs hy) fun hm => by
          have h1 := (hF1 _ hm).2
          have h2 := H2.out.2.2.1 y hy
          omega
    · by_cases hxs : xs = []
      · rw [hxs]; exact Ss.none
      · exact g3.same fun y hy => hkr.block _ (g3.lt hxs hy) fun hm => by
          have h1 := (hF1 _ hm).2
          have h2 := H3.out.2.1 y hy
          omega
  have HR : Hid (∀ x, a1 = some x → x.block ∈ F ∧ x.off = 0 ∧ ∃ cur, (w3.drewN q).heap[x.block]? = some (.cells cur 9 (0, 0)) ∧ n ≤ cur.size) := by
    show ∀ x, _
    intro y hy
    obtain ⟨b1, b2, b3, cur, b4, b5⟩ := row_blk H1.out.1 y hy
    refine ⟨by rw [hF, hy]; simp, b3, cur, ?_, b5⟩
    have hk13 : Kept [] w1 w3 := H2.out.2.2.2.1.trans H3.out.2.2.1 (by simp)
    exact (hk13.block _ b2 (by simp)).trans b4
  have HS1 : Hid (Ss w1 a1 xs) := H1.out.2.1
  obtain ⟨W, hW⟩ : ∃ W, w3.drewN q = W := ⟨_, rfl⟩
  rw [hW] at HL HR ⊢
  clear H1 H2 H3 hF hF1 hW HT
  go_wp2_with fail
  go_loopw [9] (fun s wr => ∃ (j : Nat), s = .int .i64 (j : Int) ∧ j ≤ n ∧ Hid (Kept F W wr ∧ ∀ x, a1 = some x → ∃ cur, wr.heap[x.block]? = some (.cells cur 9 (0, 0)) ∧ n ≤ cur.size)) (fun s _ => (n - intOf s).toNat)
  case atStart => exact ⟨0, rfl, by omega, Kept.refl _ _, fun x hx => (HR.out x hx).2.2⟩
  case round =>
    obtain ⟨j, rfl, hj, HJ⟩ := hrel
    by_cases hlt : j < n
    · have k1 : (j : Int) < (n : Int) := by omega
      obtain ⟨b1, o1, ha1, -⟩ := HS1.out.2 j (by have := HN.out; omega)
      obtain ⟨hmem, hoff, -⟩ := HR.out _ ha1
      obtain ⟨cur, hcur, hsz⟩ := HJ.out.2 _ ha1
      simp only [] at hmem hoff hcur
      have hc1 : wr.cell? ⟨b1, o1 + j, none⟩ = some (cur[o1 + j]'(by omega)) := by
        rw [cell_of_row _ _ _ _ _ _ hcur, Array.getElem?_eq_getElem (by omega)]
      have hf1 : wr.frozen? ⟨b1, o1 + j, none⟩ = false := Lib.frozen_of_heap hcur _
      obtain ⟨u, hu⟩ : ∃ u, cur[o1 + j]'(by omega) = u := ⟨_, rfl⟩
      rw [hu] at hc1
      have HQ : Hid (Kept F W (wr.setCell ⟨b1, o1 + j, none⟩ (.string ⟨#[115, 112, 111, 105, 108, 116]⟩)) ∧ ∀ x, a1 = some x → ∃ cur, (wr.setCell ⟨b1, o1 + j, none⟩ (.string ⟨#[115, 112, 111, 105, 108, 116]⟩)).heap[x.block]? = some (.cells cur 9 (0, 0)) ∧ n ≤ cur.size) := by
        refine ⟨HJ.out.1.setCell (Or.inl hmem) _, fun x hx => ?_⟩
        rw [ha1] at hx
        cases hx
        exact ⟨_, block_set hcur _, by rw [Array.size_setIfInBounds]; omega⟩
      clear hcur hu hmem hsz hoff
      subst ha1
      go_wp2_with fail
      go_roundw
      case rel => exact ⟨j + 1, by go_num, by omega, HQ.out⟩
      case measure => simp [intOf]; omega
    · have k1 : ¬ (j : Int) < (n : Int) := by omega
      obtain ⟨g2, g3, g4, g5⟩ := HL.out wr HJ.out.1
      have HG : Hid (Ss wr a2 xs ∧ Ss wr a3 xs ∧ Tab wr ∧ Kept [] w wr) := ⟨g2, g3, g4, g5⟩
      clear g2 g3 g4 g5 HL HJ HR
      go_wp2_with fail
      refine (same_texts _ _ _ _ _ _ xs xs wr HN.out HN.out HG.out.1 HG.out.2.1).mono ?_
      rintro e w5 ⟨rfl, q5, rfl⟩
      rw [show decide (xs = xs) = true from decide_eq_true rfl]
      go_wp2_with fail
      refine (awake_any _ (HG.out.2.2.1.kept ((Kept.refl [] wr).drewN q5))).mono ?_
      rintro e w6 ⟨rfl, hk⟩
      have HE : Hid (Below w.heap.size w w6) := ((HG.out.2.2.2.drewN q5).trans hk (by simp)).below (Nat.le_refl _) (by simp)
      clear hk
      go_wp2_with fail
      go_ret
      exact ⟨rfl, HE.out⟩

set_option maxRecDepth 100000 in
theorem lifted (os : Os) (started : os.Started) (H : Type) (enc : TypeId × Value → H) :
    ReturnsInHanded {} Tryd.checked os 3 .any (fun w args => (Rows.pathParsesSpec.pre enc Tryd.prog Tryd.f3 [] false w args ∧ laidMetH Tryd.prog laid2 w) ∧ sizedMet enc Tryd.prog Tryd.f3 (OpenSpec.ofChange Rows.pathParsesSpec) false w args)
      (Rows.pathParsesSpec.post enc Tryd.prog Tryd.f3 false true false false) := by
  refine returnsInHanded_of_change_and (C := Tryd.checked) (X := fun w _ => laidMetH Tryd.prog laid2 w) (fun _ _ _ hh h => h.of_heap hh) own started (by kernel_rfl) Tryd.func3
    (ChangeSpec.witness_shaped (enc := enc) (C := Tryd.checked) (os := os) (X := fun w _ => laidMetH Tryd.prog laid2 w) false (World.laidAll Tryd.prog os laid2) #[.string ⟨#[]⟩] 8 (World.laidAll_os _ _ _) (World.shaped_of_ZipB (by kernel_rfl) (by kernel_rfl)) (by kernel_rfl) (by kernel_rfl) (by kernel_rfl) (met_laid os _)) ?_
  intro W base args ds gs before hval0 hW _ hsz0 hL _
  have hsz : (DataW.weightsEach Tryd.prog (Tryd.f3.params.toList ++ Rows.pathParsesSpec.plain.varTypes Tryd.prog) (ds ++ gs)).all (· ≤ reachBytes) = true := hsz0
  have hval : ∀ (j : Nat) t v, Tryd.f3.params[j]? = some t → args[j]? = some v → Value.okWide Tryd.prog W .any base t v := hval0
  have hW' := hW
  obtain ⟨p, q, hA0, hV, rfl, hfz, hnd⟩ := hW
  have hA : DataW.TrodAll enc Tryd.prog W 0 (fun _ => true) true Tryd.f3.params.toList args.toList ds p := hA0
  rw [Tryd.params3] at hA hval hsz
  obtain ⟨v0, vs0, d0, ds0, p0, q0, hargs, rfl, rfl, h0, r0⟩ := trodAll_cons hA
  obtain ⟨rfl, rfl, rfl⟩ := trodAll_nil r0
  obtain rfl : args = #[v0] := by cases args; simp_all
  obtain ⟨rfl, rfl⟩ := trodVars_none hV
  obtain ⟨a0, rfl, rfl, rfl, m0⟩ := open_string Tryd.underlying9 (hval 0 9 v0 rfl rfl) h0
  have w0 : a0.size ≤ 140737488351232 := by have := sized_string hsz (j := 0) rfl rfl; simpa [reachBytes] using this
  clear hA0 hval0
  refine (walk a0 W (of_laid hL) w0).mono fun e W' ⟨he, bel⟩ => ?_
  subst he
  simp only [List.append_nil] at hW'
  exact ⟨_, rfl, _, _, _, [], [], [], hW', (trodAll_cons_mk (shut_bool Tryd.underlying4 _) trodAll_mk0), (trodAll_cons_mk (shut_string Tryd.underlying9 m0) trodAll_mk0), rfl, bel.frame _, fun h => by cases h⟩

theorem over : Rows.pathParsesRow.holds Tryd.pinned (OpenSpec.ofChange Rows.pathParsesSpec) :=
  OpenClaim.holds_of_wide 3 Tryd.f3 rfl rfl rfl rfl rfl rfl rfl ⟨rfl, rfl, rfl, rfl, rfl⟩ rfl rfl rfl rfl rfl (by kernel_rfl) Tryd.func3 (by kernel_rfl)
    (of_decide_eq_true (by kernel_rfl)) (by unfold Func.isWrapper; first | (rw [if_pos (by decide +kernel)]; kernel_rfl) | (rw [if_neg (by decide +kernel)]; exact ⟨rfl, rfl⟩))
    (fun os started H enc _ => lifted os started H enc)

theorem card : Rows.PathParsesCardSaid :=
  Claim7.holds_tied_plain_at .later [] [.data, .pinned] true (true, "9e4aaf6cee642efeb51a8be85a17a31591f1cb05bc2a301100ccc79ecbe3d53b") false
    over (fun _ h => by cases h) (by kernel_rfl) (fun _ h => by cases h) pathParses_row_tie rfl ⟨rfl, rfl⟩ (by kernel_rfl) rfl
    (fun f fn hf hfn => by
      obtain rfl : f = 3 := Option.some.inj ((show Tryd.prog.funcNamed "concourse/concourselaw11.PathParses" = some 3 by kernel_rfl).symm.trans hf) |>.symm
      obtain rfl : fn = Tryd.f3 := (Option.some.inj (Tryd.func3.symm.trans hfn)).symm
      exact ⟨by kernel_rfl, fun j t ht => by
        rw [Tryd.params3] at ht
        have hm : t ∈ [9] := by simpa using Array.mem_of_getElem? ht
        have hall : ([9].all fun u => !Tryd.prog.wantsStandIn u) = true := by kernel_rfl
        exact (show Tryd.prog.wantsStandIn t = false by simpa using List.all_eq_true.1 hall t hm)⟩)
    (by kernel_rfl)

end Go.Proofs.YtffmfgjinpigeaaDoor.pathParses

namespace Go.Proofs.YtffmfgjinpigeaaDoor
theorem pathParses_holds : Rows.PathParsesCardSaid := pathParses.card
#print axioms pathParses_holds
end Go.Proofs.YtffmfgjinpigeaaDoor
