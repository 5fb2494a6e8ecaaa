/-
  Proved: for every picks and by, the law ArenaCas returns true. No condition.
-/
import Derived.Test.YtkaijfpenokmbaaRows
import Derived.Test.YtkaijfpenokmbaaSide
import Derived.WalkKit
import Derived.ProofKit
import Derived.OpenShut
import Derived.ShutString
import Derived.ChangeOld
import Derived.Below
import Derived.Deep.Slices
namespace Go.Proofs.Ytkaijfpenokmbaa.arenaCas
open Go.ChangeShapes Go.WideShapes Go.ChangeAt Go.RowKit
open Go.ChangeMaps (open_string shut_string)
set_option linter.unusedVariables false

theorem own : ownKnob Try.prog.godebug = none := by kernel_rfl
theorem laidOut : laidOutB Try.prog = true := by kernel_rfl

def IsRow (k : IntKind) (w : World) (a : Option Addr) (len cap : Nat) (zs : List Int) : Prop :=
  (a = none ∧ len = 0 ∧ cap = 0 ∧ zs = []) ∨
  ∃ x, a = some x ∧ len ≤ cap ∧ cap ≤ maxLen ∧ zs.length = cap ∧ (∀ i, i < zs.length → w.cell? (x.add i) = some (.int k (zs.getD i 0))) ∧ ∀ n ∈ zs, (Lit.int k n).wf = true

theorem buildInts (w : World) : (Instr.buildSlice 47 4 #[(0, .int .i64 0), (1, .int .i64 0), (2, .int .i64 0), (3, .int .i64 0)]).run Try.prog w = .ok (.slice (some ⟨w.heap.size, 0, none⟩) 4 4) (w.alloc (.cells (i64s [0, 0, 0, 0]) 3)) := by kernel_rfl
theorem buildBools (w : World) : (Instr.buildSlice 48 4 #[(0, .bool false), (1, .bool false), (2, .bool false), (3, .bool false)]).run Try.prog w = .ok (.slice (some ⟨w.heap.size, 0, none⟩) 4 4) (w.alloc (.cells (bools [false, false, false, false]) 4)) := by kernel_rfl

set_option maxRecDepth 100000 in
set_option maxHeartbeats 8000000 in
theorem walk_none (a : Option Addr) (cap0 : Nat) (by0 : Int) (k : Nat) (w : World) (hk : 1 ≤ k) (hk8 : k ≤ 8) (hb : bits .and .i64 by0 7 = (k : Int) - 1) :
    Calls Try.prog 4 #[.slice a 0 cap0, .int .i64 by0] w fun e w' => e = .returned (.bool true) ∧ Kept [] w w' := by
  have e1 : 1 + ((k : Int) - 1) = (k : Int) := by omega
  have hB1 := buildInts
  have hB2 := buildBools
  go_enter Try.func4, Try.ntmps4
  go_wp2_with fail
  refine (awake_any w).mono ?_
  rintro e w1 ⟨rfl, hK⟩
  have HK : Hid (_) := hK
  clear hK
  go_wp2_with fail
  refine (u_new w1 1 4 (by omega) (by omega) (by omega) (by omega)).mono ?_
  rintro e w2 ⟨b, rfl, hm⟩
  have HI : Hid (∃ A s h, Has2 w1 ((w2.alloc (.cells (i64s [0, 0, 0, 0]) 3)).alloc (.cells (bools [false, false, false, false]) 4)) b A w2.heap.size (w2.heap.size + 1) s h ∧ Turns 0 0 k A s h) := ⟨_, _, _, Has2.start hm _ _, Turns.start k⟩
  clear hm
  go_wp2_with fail
  generalize w2.heap.size + 1 = bh at *
  generalize w2.heap.size = bs at *
  clear hB1 hB2 e1 hb
  go_loopw [9, 11] (fun d i wr => i = .int .i64 0 ∧ d = .int .i64 0 ∧ Hid (∃ A s h, Has2 w1 wr b A bs bh s h ∧ Turns 0 0 k A s h)) (fun _ _ _ => 0)
  case atStart => exact ⟨rfl, rfl, HI⟩
  case round =>
    obtain ⟨rfl, rfl, HR⟩ := hrel
    obtain ⟨A, s, h, hm, hT⟩ := HR.out
    have HT : Hid (_) := hT
    clear hT HR
    clear HI
    go_wp2_with fail
    refine (x_load hm 0 (by omega) (by rw [HT.out.cores]; omega) (by rw [HT.out.words]; simp) (Nat.lt_of_le_of_lt (HT.out.many 0 (by omega)) (by omega))).mono ?_
    rintro e w4 ⟨rfl, hm4⟩
    rw [show wordAt A.words 0 = 0 from by rw [HT.out.words]; simp [wordAt]]
    have HF : Hid (_) := hm4
    clear hm4 hm HT
    go_wp2_with (first
      | (go_at_call 10; refine (num _ _).mono ?_; rintro e w' ⟨rfl, rfl⟩))
    go_ret
    exact ⟨rfl, HK.out.trans HF.out.1 (by simp)⟩

set_option maxRecDepth 100000 in
set_option maxHeartbeats 8000000 in
theorem walk_some (bb off len0 cap0 : Nat) (z0 : List Int) (by0 : Int) (k : Nat) (w : World) (hk : 1 ≤ k) (hk8 : k ≤ 8) (hb : bits .and .i64 by0 7 = (k : Int) - 1) (hl : len0 ≤ 9223372036854775807) (hc : ∀ i, i < len0 → w.cell? ⟨bb, off + i, none⟩ = some (.int .i64 (wordAt z0 i))) :
    Calls Try.prog 4 #[.slice (some ⟨bb, off, none⟩) len0 cap0, .int .i64 by0] w fun e w' => e = .returned (.bool true) ∧ Kept [] w w' := by
  have HCE : Hid (∀ i, i < len0 → w.cell? ⟨bb, off + i, none⟩ = some (.int .i64 (wordAt z0 i))) := hc
  clear hc
  have e1 : 1 + ((k : Int) - 1) = (k : Int) := by omega
  have hB1 := buildInts
  have hB2 := buildBools
  go_enter Try.func4, Try.ntmps4
  go_wp2_with fail
  refine (awake_any w).mono ?_
  rintro e w1 ⟨rfl, hK⟩
  have HK : Hid (_) := hK
  clear hK
  go_wp2_with fail
  refine (u_new w1 1 4 (by omega) (by omega) (by omega) (by omega)).mono ?_
  rintro e w2 ⟨b, rfl, hm⟩
  have HI : Hid (∃ A s h, Has2 w1 ((w2.alloc (.cells (i64s [0, 0, 0, 0]) 3)).alloc (.cells (bools [false, false, false, false]) 4)) b A w2.heap.size (w2.heap.size + 1) s h ∧ Turns 0 0 k A s h) := ⟨_, _, _, Has2.start hm _ _, Turns.start k⟩
  clear hm
  go_wp2_with fail
  generalize w2.heap.size + 1 = bh at *
  generalize w2.heap.size = bs at *
  clear hB1 hB2 e1 hb
  go_loopw [9, 11] (fun d i wr => ∃ n D : Nat, n ≤ len0 ∧ n ≤ 200 ∧ D ≤ n ∧ i = .int .i64 (n : Int) ∧ d = .int .i64 (D : Int) ∧ Hid (∃ A s h, Has2 w1 wr b A bs bh s h ∧ Turns n D k A s h)) (fun _ i _ => (200 - intOf i).toNat)
  case atStart => exact ⟨0, 0, by omega, by omega, by omega, rfl, rfl, HI⟩
  case round =>
    obtain ⟨n, D, hn, hn2, hDn, rfl, rfl, HR⟩ := hrel
    obtain ⟨A, s, h, hm, hT⟩ := HR.out
    have HT : Hid (_) := hT
    clear hT HR
    by_cases hlt : n < len0 ∧ n < 200
    · obtain ⟨hlt, hlt2⟩ := hlt
      have hcell : wr.cell? ⟨bb, off + n, none⟩ = some (.int .i64 (wordAt z0 n)) := (HK.out.trans hm.1 (by simp)).cell (HCE.out n hlt) (by simp)
      have i0 : (0 : Int) ≤ (n : Int) := by omega
      have i1 : (n : Int) < (len0 : Int) := by omega
      obtain ⟨m, hm4, b3⟩ : ∃ m : Nat, m < 4 ∧ bits .and .i64 (wordAt z0 n) 3 = (m : Int) := ⟨(wordAt z0 n % 4).toNat, by omega, by rw [i64_and3]; omega⟩
      have m0 : (0 : Int) ≤ (m : Int) := by omega
      have m1 : (m : Int) < 4 := by omega
      obtain ⟨g0, g1⟩ := hm.has (i := m) (by rw [HT.out.has]; exact hm4)
      obtain ⟨s0, s1⟩ := hm.seen (i := m) (by rw [HT.out.seen]; exact hm4)
      cases hh : h.getD m false with
      | false =>
        rw [hh] at g0
        clear hh
        go_wp2_with fail
        refine (x_load hm (m : Int) (by omega) (by rw [HT.out.cores]; omega) (by rw [HT.out.words]; simp) (by have := HT.out.many m hm4; rw [show (m : Int).toNat = m from by omega]; omega)).mono ?_
        rintro e w4 ⟨rfl, hm5⟩
        obtain ⟨x0, x1⟩ := hm5.seen (i := m) (by rw [HT.out.seen]; exact hm4)
        have hm6 := hm5.setSeen m (wordAt A.words 0)
        obtain ⟨y0, y1⟩ := hm6.has (i := m) (by rw [HT.out.has]; exact hm4)
        have HN : Hid (_) := hm6.setHas m true
        clear hm6 hm5 hm g0 g1 s0 s1
        generalize wordAt A.words 0 = q at *
        go_wp2_with (first
          | (go_at_call 10; refine (num _ _).mono ?_; rintro e w' ⟨rfl, rfl⟩))
        go_roundw
        case rel => exact ⟨n + 1, D, by omega, by omega, by omega, by go_num, rfl, ⟨_, _, _, HN.out, HT.out.read m hm4 (by simp) (by simp)⟩⟩
        case measure => simp [intOf]; omega
      | true =>
        rw [hh] at g0
        clear hh
        have HM : Hid (Has2 w1 wr.drew b A bs bh s h) := hm.still (Kept.refl _ _).drew
        clear hm
        obtain ⟨q, hq⟩ : ∃ q, wordAt s m = q := ⟨_, rfl⟩
        rw [hq] at s0
        have HQ : Hid (_ = _) := hq
        clear hq
        by_cases hqq : q = ((D * k : Nat) : Int)
        · have HE : Hid (wordAt A.words 0 = q) := by
            show wordAt A.words 0 = q
            rw [HT.out.words, hqq]; rfl
          have HZ : Hid (IntKind.i64.wrap (q + (k : Int)) = (((D + 1) * k : Nat) : Int)) := by
            show IntKind.i64.wrap (q + (k : Int)) = (((D + 1) * k : Nat) : Int)
            have h1 : D * k ≤ 200 * 8 := Nat.mul_le_mul (by omega) hk8
            have h2 : (D + 1) * k = D * k + k := by rw [Nat.add_mul, Nat.one_mul]
            rw [hqq, h2, IntKind.wrap_i64]
            omega
          clear hqq
          go_wp2_with fail
          go_region_held3 (fun w' => w'.cell? ⟨bs, m, none⟩ = some (.int .i64 q)) (first | exact z0c | go_keep)
            ((go_at_call 17; refine (x_cas HM.out (m : Int) q (IntKind.i64.wrap (q + (k : Int))) (by omega) (by rw [HT.out.cores]; omega) (by rw [HT.out.words]; simp) (by have := HT.out.many m hm4; rw [show (m : Int).toNat = m from by omega]; omega) HE.out).mono ?_; rintro e w4 ⟨rfl, hm5⟩; have z0c := (hm5.seen (i := m) (by rw [HT.out.seen]; exact hm4)).1; rw [HQ.out] at z0c))
          obtain ⟨y0, y1⟩ := hm5.has (i := m) (by rw [HT.out.has]; exact hm4)
          have HN : Hid (_) := hm5.setHas m false
          clear hm5 g0 g1 s0 s1 z0c
          go_wp2_with (first
            | (go_at_call 10; refine (num _ _).mono ?_; rintro e w' ⟨rfl, rfl⟩))
          go_roundw
          case rel => exact ⟨n + 1, D + 1, by omega, by omega, by omega, by go_num, by go_num, ⟨_, _, _, HN.out, HT.out.done m hm4 _ HZ.out rfl (by simp)⟩⟩
          case measure => simp [intOf]; omega
        · have HE : Hid (wordAt A.words 0 ≠ q) := by
            show wordAt A.words 0 ≠ q
            rw [HT.out.words]; exact fun e => hqq e.symm
          clear hqq
          go_wp2_with fail
          go_region_held3 (fun w' => w'.cell? ⟨bs, m, none⟩ = some (.int .i64 q)) (first | exact z0c | go_keep)
            ((go_at_call 17; refine (x_cas_not HM.out (m : Int) q (IntKind.i64.wrap (q + (k : Int))) (by omega) (by rw [HT.out.cores]; omega) (by rw [HT.out.words]; simp) (by have := HT.out.many m hm4; rw [show (m : Int).toNat = m from by omega]; omega) HE.out).mono ?_; rintro e w4 ⟨rfl, hm5⟩; have z0c := (hm5.seen (i := m) (by rw [HT.out.seen]; exact hm4)).1; rw [HQ.out] at z0c))
          obtain ⟨y0, y1⟩ := hm5.has (i := m) (by rw [HT.out.has]; exact hm4)
          have HN : Hid (_) := hm5.setHas m false
          clear hm5 g0 g1 s0 s1 z0c
          go_wp2_with (first
            | (go_at_call 10; refine (num _ _).mono ?_; rintro e w' ⟨rfl, rfl⟩))
          go_roundw
          case rel => exact ⟨n + 1, D, by omega, by omega, by omega, by go_num, rfl, ⟨_, _, _, HN.out, HT.out.read m hm4 rfl (by simp)⟩⟩
          case measure => simp [intOf]; omega
    · by_cases hx : n < len0
      · have i1 : (n : Int) < (len0 : Int) := by omega
        have i2 : ¬ (n : Int) < 200 := by omega
        clear HI
        go_wp2_with fail
        refine (x_load hm 0 (by omega) (by rw [HT.out.cores]; omega) (by rw [HT.out.words]; simp) (Nat.lt_of_le_of_lt (HT.out.many 0 (by omega)) (by omega))).mono ?_
        rintro e w4 ⟨rfl, hm4⟩
        rw [show wordAt A.words 0 = ((D * k : Nat) : Int) from by rw [HT.out.words]; rfl]
        have hD : wrap64 ((D : Int) * (k : Int)) = ((D * k : Nat) : Int) := by
          rw [← Int.natCast_mul]
          have : D * k ≤ 200 * 8 := Nat.mul_le_mul (by omega) hk8
          unfold wrap64
          omega
        have HF : Hid (_ ∧ _) := ⟨hm4, HK⟩
        clear hm4 hm HT
        generalize ((D * k : Nat) : Int) = q at *
        go_wp2_with (first
          | (go_at_call 10; refine (num _ _).mono ?_; rintro e w' ⟨rfl, rfl⟩))
        go_ret
        exact ⟨rfl, HK.out.trans HF.out.1.1 (by simp)⟩
      · have i1 : ¬ (n : Int) < (len0 : Int) := by omega
        clear HI
        go_wp2_with fail
        refine (x_load hm 0 (by omega) (by rw [HT.out.cores]; omega) (by rw [HT.out.words]; simp) (Nat.lt_of_le_of_lt (HT.out.many 0 (by omega)) (by omega))).mono ?_
        rintro e w4 ⟨rfl, hm4⟩
        rw [show wordAt A.words 0 = ((D * k : Nat) : Int) from by rw [HT.out.words]; rfl]
        have hD : wrap64 ((D : Int) * (k : Int)) = ((D * k : Nat) : Int) := by
          rw [← Int.natCast_mul]
          have : D * k ≤ 200 * 8 := Nat.mul_le_mul (by omega) hk8
          unfold wrap64
          omega
        have HF : Hid (_ ∧ _) := ⟨hm4, HK⟩
        clear hm4 hm HT
        generalize ((D * k : Nat) : Int) = q at *
        go_wp2_with (first
          | (go_at_call 10; refine (num _ _).mono ?_; rintro e w' ⟨rfl, rfl⟩))
        go_ret
        exact ⟨rfl, HK.out.trans HF.out.1.1 (by simp)⟩

theorem walk (a0 : Option Addr) (len0 cap0 : Nat) (z0 : List Int) (by0 : Int) (w : World) (w0 : IsRow .i64 w a0 len0 cap0 z0) (_ : (Lit.int .i64 by0).wf = true) :
    Calls Try.prog 4 #[.slice a0 len0 cap0, .int .i64 by0] w fun e w' => e = .returned (.bool true) ∧ Below w.heap.size w w' := by
  have h7 : bits .and .i64 by0 7 = (((by0 % 8).toNat + 1 : Nat) : Int) - 1 := by rw [i64_and7]; omega
  by_cases h0 : len0 = 0
  · subst h0
    exact (walk_none a0 cap0 by0 _ w (by omega) (by omega) h7).mono fun e w' ⟨he, hk⟩ => ⟨he, hk.below (Nat.le_refl _) (by simp)⟩
  · rcases w0 with ⟨_, h1, _, _⟩ | ⟨x, rfl, hl, hm, hz, hcell, _⟩
    · exact absurd h1 h0
    · obtain ⟨bb, off, rfl, hc⟩ := ints_at hcell (by omega)
      refine (walk_some bb off len0 cap0 z0 by0 _ w (by omega) (by omega) h7 (by unfold maxLen at hm; omega) (fun i hi => ?_)).mono fun e w' ⟨he, hk⟩ => ⟨he, hk.below (Nat.le_refl _) (by simp)⟩
      exact hc i (by omega)

set_option maxRecDepth 100000 in
theorem lifted (os : Os) (started : os.Started) (H : Type) (enc : TypeId × Value → H) :
    ReturnsInHanded {} Try.checked os 4 .any (Rows.arenaCasSpec.pre6 enc Try.prog Try.f4 Rows.arenaCasRow.domain false) (Rows.arenaCasSpec.post enc Try.prog Try.f4 false true false false) := by
  refine returnsInHanded_of_change (C := Try.checked) own started (by kernel_rfl) Try.func4
    (ChangeSpec.witness6 (enc := enc) (C := Try.checked) false ⟨#[], #[.slice none 0 0, .int .i64 0], []⟩ 8 (by kernel_rfl) (by kernel_rfl) (by kernel_rfl) (by kernel_rfl)) ?_
  intro W base args ds gs before hval0 hW hcnd _
  have hval : ∀ (j : Nat) t v, Try.f4.params[j]? = some t → args[j]? = some v → Value.okWide Try.prog W .any base t v := hval0
  have hW' := hW
  obtain ⟨p, q, hA0, hV, rfl, hfz, hnd⟩ := hW
  have hA : DataW.TrodAll enc Try.prog W 0 (fun _ => true) true Try.f4.params.toList args.toList ds p := hA0
  rw [Try.params4] at hA hval
  obtain ⟨v0, vs0, d0, ds0, p0, q0, hargs, rfl, rfl, h0, r0⟩ := trodAll_cons hA
  obtain ⟨v1, vs1, d1, ds1, p1, q1, rfl, rfl, rfl, h1, r1⟩ := trodAll_cons r0
  obtain ⟨rfl, rfl, rfl⟩ := trodAll_nil r1
  obtain rfl : args = #[v0, v1] := by cases args; simp_all
  obtain ⟨rfl, rfl⟩ := trodVars_none hV
  obtain ⟨a0, len0, cap0, rfl⟩ := okWide_slice Try.underlying47 (hval 0 47 v0 rfl rfl)
  have k0 := h0
  have lt0 : ∀ x ∈ p0, x.block < W.heap.size := by obtain ⟨m, hm⟩ := k0; exact DataW.trod_lt m _ _ _ hm
  obtain ⟨z0, w0⟩ : ∃ zs, IsRow .i64 W a0 len0 cap0 zs := by
    obtain ⟨fuel, hf⟩ := h0
    rcases open_ints Try.underlying47 Try.underlying3 (by kernel_rfl) hf with ⟨hcs, _⟩ | ⟨x, l, c, zs, hcs, _, hl, hm, hz, _, hcell, hwz⟩
    · simp [Value.cells] at hcs
      obtain ⟨rfl, rfl, rfl⟩ := hcs
      exact ⟨[], .inl ⟨rfl, rfl, rfl, rfl⟩⟩
    · simp [Value.cells] at hcs
      obtain ⟨rfl, rfl, rfl⟩ := hcs
      exact ⟨zs, .inr ⟨_, rfl, hl, hm, by simpa using hz, hcell, hwz⟩⟩
  obtain ⟨a1, rfl, rfl, rfl, w1⟩ := open_int Try.underlying3 (hval 1 3 v1 rfl rfl) h1
  clear hA0 hval0
  refine (walk a0 len0 cap0 z0 a1 W w0 w1).mono fun e W' ⟨he, bel⟩ => ?_
  subst he
  exact ⟨_, rfl, _, _, _, [], _, [], hW', trodAll_mk1 (shut_bool Try.underlying4 _), (trodAll_cons_mk (Below.trod laidOut (by kernel_rfl) (of_decide_eq_true (by kernel_rfl)) k0 bel lt0) (trodAll_cons_mk (shut_int Try.underlying3 w1) trodAll_mk0)), rfl, bel.frame _, fun h => by cases h⟩

theorem over : Rows.arenaCasRow.holds Try.pinned (OpenSpec.ofChange Rows.arenaCasSpec) :=
  OpenClaim.holds_of_wide 4 Try.f4 rfl rfl rfl rfl rfl rfl rfl ⟨rfl, rfl, rfl, rfl, rfl⟩ rfl rfl rfl rfl rfl (by kernel_rfl) Try.func4 (by kernel_rfl)
    (of_decide_eq_true (by kernel_rfl)) (by unfold Func.isWrapper; first | (rw [if_pos (by decide +kernel)]; kernel_rfl) | (rw [if_neg (by decide +kernel)]; exact ⟨rfl, rfl⟩))
    (fun os started H enc _ => lifted os started H enc)

end Go.Proofs.Ytkaijfpenokmbaa.arenaCas

namespace Go.Proofs.Ytkaijfpenokmbaa
theorem arenaCas_holds : Rows.ArenaCasSaid := arenaCas.over
#print axioms arenaCas_holds
end Go.Proofs.Ytkaijfpenokmbaa
