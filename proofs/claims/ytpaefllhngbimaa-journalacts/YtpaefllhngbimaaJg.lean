/-
  The acts that are handed in.
-/
import Derived.Test.YtpaefllhngbimaaJd
import Derived.SliceStrings
import Derived.OpenShut
import Derived.SizedLaws
import Derived.Deep.Slices
namespace Go.Proofs.Ytpaefllhngbimaa
open Go.RowKit Go.ChangeShapes Go.WideShapes
set_option linter.unusedVariables false
set_option linter.unusedSimpArgs false

theorem add_lit (b o k : Nat) : (⟨b, o, none⟩ : Addr).add k = ⟨b, o + k, none⟩ := by unfold Addr.add; split <;> simp_all

theorem weigh_all {H : Type} {P : Program} {e : TypeId} {d : DataW H} {n : Nat} (hn : n ∈ d.weights P e) : ∀ {l : List (DataW H)}, d ∈ l → n ∈ DataW.weightsAll P e l
  | [], h => by cases h
  | x :: l, h => by
    rw [DataW.weightsAll, List.mem_append]
    rcases List.mem_cons.1 h with rfl | h
    · exact Or.inl hn
    · exact Or.inr (weigh_all hn h)

/-- A slice that is handed in, and its weights. -/
theorem slice_open {H : Type} {enc : TypeId × Value → H} {P : Program} {w : World} {base : Nat} {spare : Nat → Bool} {held : Bool} {fuel : Nat} {t e : TypeId} {v : Value} {x : DataW H × List MemPlace} (ht : P.underlying t = some (.slice e)) (hce : 0 < P.cellsOf e)
    (h : DataW.trod enc P w base spare held fuel t [v] = some x) (hw : ∀ n ∈ x.1.weights P t, n ≤ reachBytes) :
    ∃ (a : Option Addr) (len cap n : Nat) (D : Nat → DataW H) (Q : Nat → List MemPlace), v = .slice a len cap ∧ len ≤ cap ∧ len * P.bytesOf e ≤ reachBytes ∧ cap ≤ maxLen ∧
      ∀ i, i < len → ∃ b o cs, a = some ⟨b, o, none⟩ ∧ cs.length = P.cellsOf e ∧ (∀ k, k < P.cellsOf e → w.cell? ⟨b, o + (i * P.cellsOf e + k), none⟩ = cs[k]?) ∧ DataW.trod enc P w base spare held n e cs = some (D i, Q i) ∧ ∀ m ∈ (D i).weights P e, m ≤ reachBytes := by
  rcases Deep.open_slice ht h with ⟨hcs, _⟩ | ⟨a, len, cap, m, n, D, Pl, hcs, hb, hl, hm, hmm, hxx, hx⟩
  · simp at hcs
    subst hcs
    exact ⟨none, 0, 0, 0, fun _ => .nil, fun _ => [], rfl, Nat.le_refl _, by simp, by unfold maxLen; omega, fun i hi => by omega⟩
  · simp at hcs
    subst hcs
    have hlm : len ≤ m := by rw [hmm]; split <;> omega
    have hx1 : x.1 = .slice ((List.range len).map D) ((List.range (m - len)).map fun j => D (len + j)) := by rw [hxx]
    refine ⟨some a, len, cap, n, D, Pl, rfl, hl, ?_, hm, fun i hi => ?_⟩
    · refine Nat.le_trans ?_ (hw _ (by rw [hx1]; unfold DataW.weights; rw [ht]; exact List.mem_cons_self))
      refine Nat.mul_le_mul_right _ ?_
      simp
    · obtain ⟨b, o, spot⟩ := a
      have hspot : spot = none := by
        obtain ⟨cs, h1, -⟩ := hx 0 (by omega)
        obtain ⟨_, hlen, hcell⟩ := World.cells?_some h1
        have h0 := hcell 0 hce
        rw [Nat.zero_mul] at h0
        have h2 : ∃ v, cs[0]? = some v := ⟨cs[0]'(by omega), List.getElem?_eq_getElem (by omega)⟩
        obtain ⟨v, hv⟩ := h2
        rw [hv] at h0
        simpa [Addr.add] using World.cell?_spot h0
      subst hspot
      obtain ⟨cs, h1, h2⟩ := hx i (by omega)
      obtain ⟨_, hlen, hcell⟩ := World.cells?_some h1
      refine ⟨b, o, cs, rfl, hlen, fun k hk => ?_, h2, fun k hk => hw k ?_⟩
      · rw [← hcell k hk, Deep.add_add, add_lit]
      · rw [hx1]
        unfold DataW.weights
        rw [ht]
        refine List.mem_cons_of_mem _ (List.mem_append_left _ (weigh_all hk ?_))
        exact List.mem_map.2 ⟨i, List.mem_range.2 hi, rfl⟩

theorem cells_int : Try.prog.cellsOf 3 = 1 := by kernel_rfl
theorem cells_string : Try.prog.cellsOf 9 = 1 := by kernel_rfl
theorem cells_Act : Try.prog.cellsOf 62 = 4 := by kernel_rfl

set_option maxRecDepth 100000 in
theorem text_open {H : Type} {enc : TypeId × Value → H} {w : World} {base : Nat} {spare : Nat → Bool} {held : Bool} {fuel : Nat} {x : DataW H × List MemPlace} {v : Value} (h : DataW.trod enc Try.prog w base spare held fuel 9 [v] = some x) (hw : ∀ n ∈ x.1.weights Try.prog 9, n ≤ reachBytes) : ∃ s : ByteArray, v = .string s ∧ s.size ≤ 140737488351232 := by
  obtain ⟨s, hs, hx, -⟩ := DataW.trod_string Try.underlying9 h
  simp at hs
  refine ⟨s, hs, ?_⟩
  have := hw s.data.toList.length (by rw [hx]; unfold DataW.weights; simp)
  unfold reachBytes at this
  exact this

set_option maxRecDepth 100000 in
theorem int_open {H : Type} {enc : TypeId × Value → H} {w : World} {base : Nat} {spare : Nat → Bool} {held : Bool} {fuel : Nat} {x : DataW H × List MemPlace} {v : Value} (h : DataW.trod enc Try.prog w base spare held fuel 3 [v] = some x) : ∃ n : Int, v = .int .i64 n ∧ n ≤ 9223372036854775807 := by
  obtain ⟨n, hs, -, hx⟩ := DataW.trod_int Try.underlying3 h
  simp at hs
  exact ⟨n, hs, by
    have e : IntKind.i64.max = 9223372036854775807 := by decide
    simp [Lit.wf, e] at hx
    exact hx.2⟩

/-- An act. -/
structure Acx where
  kd : Int
  s : ByteArray
  fu : Int
  kp : Int

/-- Its text has a machine's size, its keep is an int. -/
def Acx.small (c : Acx) : Prop := c.s.size ≤ 140737488351232 ∧ c.kp ≤ 9223372036854775807

def Acx.cs (c : Acx) : List Value := [.int .i64 c.kd, .string c.s, .int .i64 c.fu, .int .i64 c.kp]

set_option maxRecDepth 100000 in
theorem act_open {H : Type} {enc : TypeId × Value → H} {w : World} {base : Nat} {spare : Nat → Bool} {held : Bool} {fuel : Nat} {x : DataW H × List MemPlace} {cs : List Value} (h : DataW.trod enc Try.prog w base spare held fuel 62 cs = some x) (hw : ∀ n ∈ x.1.weights Try.prog 62, n ≤ reachBytes) :
    ∃ c : Acx, cs = c.cs ∧ c.small := by
  obtain ⟨xs, k, hk, hxy, hcl, hxl, hf⟩ := DataW.trod_struct Try.underlying62 h
  rw [cells_Act] at hcl
  match xs, hxl, cs, hcl with
  | [y0, y1, y2, y3], _, [v0, v1, v2, v3], _ =>
    have g0 := hf 0 _ rfl
    have g1 := hf 1 _ rfl
    have g2 := hf 2 _ rfl
    have g3 := hf 3 _ rfl
    simp [cells_int, cells_string] at g0 g1 g2 g3
    have wt1 : ∀ n ∈ y1.1.weights Try.prog 9, n ≤ reachBytes := fun n hn => hw n (by
      rw [hxy]
      unfold DataW.weights
      rw [Try.underlying62]
      simp [DataW.weightsEach, hn])
    obtain ⟨n0, rfl, -⟩ := int_open g0
    obtain ⟨s1, rfl, h1⟩ := text_open g1 wt1
    obtain ⟨n2, rfl, -⟩ := int_open g2
    obtain ⟨n3, rfl, h3⟩ := int_open g3
    exact ⟨⟨n0, s1, n2, n3⟩, rfl, h1, h3⟩

/-- The acts as they lie. -/
def IsActs (w : World) (a : Option Addr) (len : Nat) : Prop :=
  len ≤ 9223372036854775807 ∧ ∃ A : Nat → Acx, ∀ i, i < len → ∃ B off, a = some ⟨B, off, none⟩ ∧ (A i).small ∧ ∀ j u, (A i).cs[j]? = some u → w.cell? ⟨B, off + (i * 4 + j), none⟩ = some u

set_option maxRecDepth 100000 in
theorem acts_at {H : Type} {enc : TypeId × Value → H} {w : World} {base : Nat} {spare : Nat → Bool} {held : Bool} {fuel : Nat} {a : Option Addr} {len cap : Nat} {x : DataW H × List MemPlace}
    (h : DataW.trod enc Try.prog w base spare held fuel 22 [.slice a len cap] = some x) (hw : ∀ n ∈ x.1.weights Try.prog 22, n ≤ reachBytes) : IsActs w a len := by
  obtain ⟨a', len', cap', n, D, Q, e, hl, hb, hc, hx⟩ := slice_open Try.underlying22 (by rw [cells_Act]; omega) h hw
  simp only [Value.slice.injEq] at e
  obtain ⟨rfl, rfl, rfl⟩ := e
  have each : ∀ i, i < len → ∃ q : Acx, ∃ B off, a = some ⟨B, off, none⟩ ∧ q.small ∧ ∀ j u, q.cs[j]? = some u → w.cell? ⟨B, off + (i * 4 + j), none⟩ = some u := by
    intro i hi
    obtain ⟨b, o, cs, rfl, hlen, hcell, h2, h3⟩ := hx i hi
    rw [cells_Act] at hlen hcell
    obtain ⟨q, rfl, hs⟩ := act_open h2 h3
    refine ⟨q, b, o, rfl, hs, fun j u hu => ?_⟩
    have hj : j < 4 := by
      have := (List.getElem?_eq_some_iff.1 hu).1
      rw [hlen] at this
      exact this
    rw [hcell j hj, hu]
  have inh : Inhabited Acx := ⟨⟨0, ⟨#[]⟩, 0, 0⟩⟩
  obtain ⟨q, hq⟩ := Deep.choose_lt each
  exact ⟨by unfold maxLen at hc; omega, q, hq⟩

end Go.Proofs.Ytpaefllhngbimaa
