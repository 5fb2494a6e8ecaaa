/-
  NameHashes: for every text and number, one rune more is 31 times the hash and the rune, modulo 2^32 (P8.2); no condition beyond the row's own.
-/
import Derived.Test.YtecddbolgegdfaaDoorRows
import Derived.Test.YtecddbolgegdfaaDoorCards
import Derived.Test.YtecddbolgegdfaaDoorTie
import Derived.Test.YtecddbolgegdfaaDoorLaid
import Derived.WalkKit
import Derived.ProofKit
import Derived.OpenShut
import Derived.ShutString
import Derived.ChangeOld
import Derived.Below
import Derived.Deep.Slices
import Derived.LaidMore
import Derived.Lay
import Derived.SizedLaws
import Derived.Laws.BytesArg
import Derived.Stop.Joined
import Derived.SevenTiedAt
namespace Go.Proofs.YtecddbolgegdfaaDoor.nameHashes
open Go.ChangeShapes Go.WideShapes Go.ChangeAt Go.RowKit
open Go.ChangeMaps (open_string shut_string)
set_option linter.unusedVariables false

theorem tail_x (s : ByteArray) : (s ++ ⟨#[120]⟩ : ByteArray).size = s.size + 1 ∧ at8 (s ++ ⟨#[120]⟩) ((s ++ ⟨#[120]⟩ : ByteArray).size - 1) < 128 := by
  have h : (s ++ ⟨#[120]⟩ : ByteArray).size = s.size + 1 := by rw [ByteArray.size_append]; rfl
  refine ⟨h, ?_⟩
  rw [h, Nat.add_sub_cancel, show s.size = s.size + 0 from rfl, at8_right]
  decide +kernel

theorem rs_none : rs ⟨#[]⟩ 0 = [] := rs_end (by decide)

theorem hashL_one (l : List (Int × Nat)) (x : Int × Nat) (h : Int) : hashL (l ++ [x]) h = (31 * hashL l h + x.1) % 4294967296 := by
  unfold hashL; rw [List.foldl_append]; rfl

/-- A text of one byte below 128. -/
theorem rs_byte (c : Nat) (h : c < 128) : rs (strOfNums [(c : Int)]) 0 = [((c : Int), 1)] := by
  have e : ∀ c : Fin 128, rsF 1 (strOfNums [((c.1 : Nat) : Int)]) 0 = [((c.1 : Int), 1)] := by decide +kernel
  rw [rs_fuel _ 1 0 (by rw [strOfNums_size]; simp)]
  exact e ⟨c, h⟩

theorem cell_new (w : World) (cs : Array Value) (i : Nat) (v : Value) (h : cs[i]? = some v) : (w.alloc (.cells cs 5)).cell? ⟨w.heap.size, i, none⟩ = some v := by
  rw [World.cell?_alloc_new]; exact h

set_option maxRecDepth 100000 in
set_option maxHeartbeats 2000000 in
theorem main (s : ByteArray) (r : Int) (w : World) (hT : Tab w) (hs : s.size ≤ 140737488351232) :
    Calls Tryd.prog 5 #[.string s, .int .i64 r] w fun e w' => e = .returned (.bool true) ∧ Kept [] w w' := by
  obtain ⟨a, ha⟩ : ∃ a, (s ++ ⟨#[120]⟩ : ByteArray) = a := ⟨_, rfl⟩
  obtain ⟨h1, h2⟩ := tail_x s
  rw [ha] at h1 h2
  have HA : Hid (_) := ha
  have h8 : a.size ≤ 140737488351233 := by omega
  have hr := hashL_range (rs a 0) 7 (by omega)
  have h3 : ∀ c : Nat, c < 128 → hashL (rs (a ++ strOfNums [(c : Int)]) 0) 7 = (31 * hashL (rs a 0) 7 + (c : Int)) % 4294967296 := fun c hc => by
    rw [rs_both _ h2, rs_byte c hc, hashL_one]
  obtain ⟨z, hz⟩ : ∃ z, hashL (rs a 0) 7 = z := ⟨_, rfl⟩
  rw [hz] at h3 hr
  obtain ⟨z0, z1⟩ := hr
  have H3 : Hid (_) := h3
  have HZ : Hid (_) := hz
  have HT : Hid (Tab w) := hT
  clear ha h1 h2 h3 hz hT
  obtain ⟨m, hm, hm2⟩ : ∃ m : Nat, (IntKind.u64.wrap r).tmod 90 = (m : Int) ∧ m < 90 := by
    have : 0 ≤ IntKind.u64.wrap r := by simp [IntKind.wrap, IntKind.signed, IntKind.bits]; omega
    obtain ⟨q, hq⟩ : ∃ q : Nat, IntKind.u64.wrap r = (q : Int) := ⟨(IntKind.u64.wrap r).toNat, by omega⟩
    refine ⟨q % 90, ?_, Nat.mod_lt _ (by omega)⟩
    rw [hq]; rfl
  go_enter Tryd.func5, Tryd.ntmps5
  go_wp2_with fail
  refine (awake_any w HT.out).mono ?_
  rintro e w1 ⟨rfl, hk⟩
  have HK : Hid (_) := hk
  clear hk
  go_wp2_with fail
  rw [HA.out]
  refine (n_hash a w1).mono ?_
  rintro e w2 ⟨rfl, hk⟩
  have H2 : Hid (_) := HK.out.trans hk (by simp)
  clear hk HK
  rw [HZ.out]
  have hcv := run_convert_bytes_arg (P := Tryd.prog) (w2.alloc (.cells #[.int .u8 (32 + (m : Int))] 5)) 30 5 Tryd.underlying30 Tryd.underlying5 w2.heap.size 0 1 1 [32 + (m : Int)] rfl (fun i hi => by
    obtain rfl : i = 0 := by omega
    exact cell_new w2 _ 0 _ rfl) 9 Tryd.underlying9
  obtain ⟨t, ht⟩ : ∃ t, strOfNums [32 + (m : Int)] = t := ⟨_, rfl⟩
  obtain ⟨W, hW⟩ : ∃ W, w2.alloc (.cells #[.int .u8 (32 + (m : Int))] 5) = W := ⟨_, rfl⟩
  have hKW : Kept [] w2 W := by rw [← hW]; exact (Kept.refl _ _).alloc _
  have h5 := H3.out (32 + m) (by omega)
  rw [Int.natCast_add, show ((32 : Nat) : Int) = 32 from rfl, ht] at h5
  rw [ht] at hcv
  have HW : Hid (_ ∧ _ ∧ _) := ⟨hW, H2.out.trans hKW (by simp), h5⟩
  have hts : t.size ≤ 1 := by rw [← ht, strOfNums_size]; simp
  clear hW hKW ht h5 H3 H2
  go_wp2_with fail
  rw [HW.out.1]
  refine (n_hash (a ++ t) W).mono ?_
  rintro e w3 ⟨rfl, hk⟩
  have H3 : Hid (_) := HW.out.2.1.trans hk (by simp)
  clear hk hcv
  rw [HW.out.2.2]
  go_wp2_with fail
  refine (n_bucket a w3).mono ?_
  rintro e w4 ⟨rfl, hk⟩
  have H4 : Hid (_) := H3.out.trans hk (by simp)
  clear hk H3
  rw [HZ.out]
  go_wp2_with fail
  refine (n_hash ⟨#[]⟩ w4).mono ?_
  rintro e w5 ⟨rfl, hk⟩
  have H5 : Hid (_) := H4.out.trans hk (by simp)
  clear hk H4
  rw [rs_none]
  go_wp2_with fail
  go_ret
  exact ⟨rfl, H5.out⟩

theorem walk (s : ByteArray) (r : Int) (w : World) (hT : Tab w) (hs : s.size ≤ 140737488351232) (_ : (Lit.int .i64 r).wf = true) :
    Calls Tryd.prog 5 #[.string s, .int .i64 r] w fun e w' => e = .returned (.bool true) ∧ Below w.heap.size w w' :=
  (main s r w hT hs).mono fun e w' ⟨he, hk⟩ => ⟨he, hk.below (Nat.le_refl _) (by simp)⟩

set_option maxRecDepth 100000 in
theorem lifted (os : Os) (started : os.Started) (H : Type) (enc : TypeId × Value → H) :
    ReturnsInHanded {} Tryd.checked os 5 .any (fun w args => (Rows.nameHashesSpec.pre enc Tryd.prog Tryd.f5 [] false w args ∧ laidMetH Tryd.prog laid2 w) ∧ sizedMet enc Tryd.prog Tryd.f5 (OpenSpec.ofChange Rows.nameHashesSpec) false w args)
      (Rows.nameHashesSpec.post enc Tryd.prog Tryd.f5 false true false false) := by
  refine returnsInHanded_of_change_and (C := Tryd.checked) (X := fun w _ => laidMetH Tryd.prog laid2 w) (fun _ _ _ hh h => h.of_heap hh) own started (by kernel_rfl) Tryd.func5
    (ChangeSpec.witness_shaped (enc := enc) (C := Tryd.checked) (os := os) (X := fun w _ => laidMetH Tryd.prog laid2 w) false (World.laidAll Tryd.prog os laid2) #[.string ⟨#[]⟩, .int .i64 0] 8 (World.laidAll_os _ _ _) (World.shaped_of_ZipB (by kernel_rfl) (by kernel_rfl)) (by kernel_rfl) (by kernel_rfl) (by kernel_rfl) (met_laid os _)) ?_
  intro W base args ds gs before hval0 hW _ hsz0 hL _
  have hsz : (DataW.weightsEach Tryd.prog (Tryd.f5.params.toList ++ Rows.nameHashesSpec.plain.varTypes Tryd.prog) (ds ++ gs)).all (· ≤ reachBytes) = true := hsz0
  have hval : ∀ (j : Nat) t v, Tryd.f5.params[j]? = some t → args[j]? = some v → Value.okWide Tryd.prog W .any base t v := hval0
  have hW' := hW
  obtain ⟨p, q, hA0, hV, rfl, hfz, hnd⟩ := hW
  have hA : DataW.TrodAll enc Tryd.prog W 0 (fun _ => true) true Tryd.f5.params.toList args.toList ds p := hA0
  rw [Tryd.params5] at hA hval hsz
  obtain ⟨v0, vs0, d0, ds0, p0, q0, hargs, rfl, rfl, h0, r0⟩ := trodAll_cons hA
  obtain ⟨v1, vs1, d1, ds1, p1, q1, rfl, rfl, rfl, h1, r1⟩ := trodAll_cons r0
  obtain ⟨rfl, rfl, rfl⟩ := trodAll_nil r1
  obtain rfl : args = #[v0, v1] := by cases args; simp_all
  obtain ⟨rfl, rfl⟩ := trodVars_none hV
  obtain ⟨a0, rfl, rfl, rfl, m0⟩ := open_string Tryd.underlying9 (hval 0 9 v0 rfl rfl) h0
  have w0 : a0.size ≤ 140737488351232 := by have := sized_string hsz (j := 0) rfl rfl; simpa [reachBytes] using this
  obtain ⟨a1, rfl, rfl, rfl, w1⟩ := open_int Tryd.underlying3 (hval 1 3 v1 rfl rfl) h1
  clear hA0 hval0
  refine (walk a0 a1 W (of_laid hL) w0 w1).mono fun e W' ⟨he, bel⟩ => ?_
  subst he
  simp only [List.append_nil] at hW'
  exact ⟨_, rfl, _, _, _, [], [], [], hW', (trodAll_cons_mk (shut_bool Tryd.underlying4 _) trodAll_mk0), (trodAll_cons_mk (shut_string Tryd.underlying9 m0) (trodAll_cons_mk (shut_int Tryd.underlying3 w1) trodAll_mk0)), rfl, bel.frame _, fun h => by cases h⟩

theorem over : Rows.nameHashesRow.holds Tryd.pinned (OpenSpec.ofChange Rows.nameHashesSpec) :=
  OpenClaim.holds_of_wide 5 Tryd.f5 rfl rfl rfl rfl rfl rfl rfl ⟨rfl, rfl, rfl, rfl, rfl⟩ rfl rfl rfl rfl rfl (by kernel_rfl) Tryd.func5 (by kernel_rfl)
    (of_decide_eq_true (by kernel_rfl)) (by unfold Func.isWrapper; first | (rw [if_pos (by decide +kernel)]; kernel_rfl) | (rw [if_neg (by decide +kernel)]; exact ⟨rfl, rfl⟩))
    (fun os started H enc _ => lifted os started H enc)

theorem card : Rows.NameHashesCardSaid :=
  Claim7.holds_tied_plain_at .later [] [.data, .pinned] true (true, "a19ee9f1284ada8f5c47f7762ea83e95fcdbdffd576c9b261bd8f54d32d6a93a") false
    over (fun _ h => by cases h) (by kernel_rfl) (fun _ h => by cases h) nameHashes_row_tie rfl ⟨rfl, rfl⟩ (by kernel_rfl) rfl
    (fun f fn hf hfn => by
      obtain rfl : f = 5 := Option.some.inj ((show Tryd.prog.funcNamed "concourse/concourselaw8.NameHashes" = some 5 by kernel_rfl).symm.trans hf) |>.symm
      obtain rfl : fn = Tryd.f5 := (Option.some.inj (Tryd.func5.symm.trans hfn)).symm
      exact ⟨by kernel_rfl, fun j t ht => by
        rw [Tryd.params5] at ht
        have hm : t ∈ [9, 3] := by simpa using Array.mem_of_getElem? ht
        have hall : ([9, 3].all fun u => !Tryd.prog.wantsStandIn u) = true := by kernel_rfl
        exact (show Tryd.prog.wantsStandIn t = false by simpa using List.all_eq_true.1 hall t hm)⟩)
    (by kernel_rfl)

end Go.Proofs.YtecddbolgegdfaaDoor.nameHashes

namespace Go.Proofs.YtecddbolgegdfaaDoor
theorem nameHashes_holds : Rows.NameHashesCardSaid := nameHashes.card
#print axioms nameHashes_holds
end Go.Proofs.YtecddbolgegdfaaDoor
