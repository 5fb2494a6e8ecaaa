/-
  slices.SortFunc over rows of entries, by what the library has proved of it; strings.Compare and the closure that the program hands it.
-/
import Derived.Shelf.SlSortCmp.NoneTotal
import Derived.Test.YtnbbcbjfejdceaaDoorEr
import Derived.Lib.Bytealg
namespace Go.Proofs.YtnbbcbjfejdceaaDoor
open Go.Shelf Go.RowKit Go.Lib Go.Sort
set_option linter.unusedVariables false

def sortEn_ren : Go.Shelf.Ren := ⟨fun | 6 => 36 | 15 => 57 | 14 => 56 | 28 => 73 | 29 => 74 | 20 => 65 | 21 => 66 | 22 => 67 | 23 => 68 | 24 => 69 | 25 => 70 | 26 => 71 | 27 => 72 | 46 => 81 | 47 => 82 | 48 => 83 | 49 => 84 | 50 => 85 | 57 => 87 | n => n, fun | 22 => 28 | 24 => 61 | 25 => 83 | 3 => 3 | 39 => 50 | 0 => 0 | 53 => 118 | 55 => 93 | 4 => 4 | 46 => 111 | 45 => 110 | 50 => 115 | 5 => 5 | 9 => 9 | 66 => 128 | 70 => 132 | 76 => 137 | 77 => 41 | n => n, fun | n => n⟩
theorem sortEn : Go.Proofs.SlLaysF0.n6 Tryd.prog sortEn_ren := {
  mixed := by kernel_rfl
  f6 := ⟨Tryd.f36.name, by decide, Tryd.func36.trans (congrArg some (by kernel_rfl))⟩
  f14 := ⟨Tryd.f56.name, by decide, Tryd.func56.trans (congrArg some (by kernel_rfl))⟩
  f15 := Tryd.func57.trans (congrArg some (by kernel_rfl))
  f20 := ⟨Tryd.f65.name, by decide, Tryd.func65.trans (congrArg some (by kernel_rfl))⟩
  f21 := ⟨Tryd.f66.name, by decide, Tryd.func66.trans (congrArg some (by kernel_rfl))⟩
  f22 := ⟨Tryd.f67.name, by decide, Tryd.func67.trans (congrArg some (by kernel_rfl))⟩
  f23 := ⟨Tryd.f68.name, by decide, Tryd.func68.trans (congrArg some (by kernel_rfl))⟩
  f24 := ⟨Tryd.f69.name, by decide, Tryd.func69.trans (congrArg some (by kernel_rfl))⟩
  f25 := ⟨Tryd.f70.name, by decide, Tryd.func70.trans (congrArg some (by kernel_rfl))⟩
  f26 := ⟨Tryd.f71.name, by decide, Tryd.func71.trans (congrArg some (by kernel_rfl))⟩
  f27 := ⟨Tryd.f72.name, by decide, Tryd.func72.trans (congrArg some (by kernel_rfl))⟩
  f28 := Tryd.func73.trans (congrArg some (by kernel_rfl))
  f29 := Tryd.func74.trans (congrArg some (by kernel_rfl))
  f46 := ⟨Tryd.f81.name, by decide, Tryd.func81.trans (congrArg some (by kernel_rfl))⟩
  f47 := Tryd.func82.trans (congrArg some (by kernel_rfl))
  f48 := Tryd.func83.trans (congrArg some (by kernel_rfl))
  f49 := ⟨Tryd.f84.name, by decide, Tryd.func84.trans (congrArg some (by kernel_rfl))⟩
  f50 := ⟨Tryd.f85.name, by decide, Tryd.func85.trans (congrArg some (by kernel_rfl))⟩
  f57 := ⟨Tryd.f87.name, by decide, Tryd.func87.trans (congrArg some (by kernel_rfl))⟩
  t0 := Tryd.underlying0
  a0 := Tryd.isAgg0
  z0 := Tryd.sizeOf0
  v0 := Tryd.zeroValue0
  t3 := Tryd.underlying3
  a3 := Tryd.isAgg3
  z3 := Tryd.sizeOf3
  v3 := Tryd.zeroValue3
  t4 := Tryd.underlying4
  a4 := Tryd.isAgg4
  z4 := Tryd.sizeOf4
  v4 := Tryd.zeroValue4
  t5 := Tryd.underlying5
  a5 := Tryd.isAgg5
  z5 := Tryd.sizeOf5
  v5 := Tryd.zeroValue5
  t9 := Tryd.underlying9
  a9 := Tryd.isAgg9
  z9 := Tryd.sizeOf9
  v9 := Tryd.zeroValue9
  t22 := Tryd.underlying28
  a22 := Tryd.isAgg28
  z22 := Tryd.sizeOf28
  v22 := Tryd.zeroValue28
  t25 := Tryd.underlying83
  a25 := Tryd.isAgg83
  z25 := Tryd.sizeOf83
  v25 := Tryd.zeroValue83
  t39 := Tryd.underlying50
  a39 := Tryd.isAgg50
  z39 := Tryd.sizeOf50
  v39 := Tryd.zeroValue50
  t45 := Tryd.underlying110
  a45 := Tryd.isAgg110
  z45 := Tryd.sizeOf110
  v45 := Tryd.zeroValue110
  t46 := Tryd.underlying111
  a46 := Tryd.isAgg111
  z46 := Tryd.sizeOf111
  v46 := Tryd.zeroValue111
  t50 := Tryd.underlying115
  a50 := Tryd.isAgg115
  z50 := Tryd.sizeOf115
  v50 := Tryd.zeroValue115
  t53 := Tryd.underlying118
  a53 := Tryd.isAgg118
  z53 := Tryd.sizeOf118
  v53 := Tryd.zeroValue118
  t55 := Tryd.underlying93
  a55 := Tryd.isAgg93
  z55 := Tryd.sizeOf93
  v55 := Tryd.zeroValue93
  t66 := Tryd.underlying128
  a66 := Tryd.isAgg128
  z66 := Tryd.sizeOf128
  v66 := Tryd.zeroValue128
  t70 := Tryd.underlying132
  a70 := Tryd.isAgg132
  z70 := Tryd.sizeOf132
  v70 := Tryd.zeroValue132
  t76 := Tryd.underlying137
  a76 := Tryd.isAgg137
  z76 := Tryd.sizeOf137
  v76 := Tryd.zeroValue137
  t77 := Tryd.underlying41
  a77 := Tryd.isAgg41
  z77 := Tryd.sizeOf41
  v77 := Tryd.zeroValue41 }

/-- What strings.Compare answers. -/
def cmpB (a b : ByteArray) : Int := Lib.compareBytes a.data.toList b.data.toList

theorem s_compareString (a b : ByteArray) (w : World) :
    Calls Tryd.prog 58 #[.string a, .string b] w fun e w' => e = .returned (.int .i64 (cmpB a b)) ∧ w' = w := by
  go_enter Tryd.func58, Tryd.ntmps58
  go_wp2
  rw [run_callFunc_extern Tryd.func75 (by kernel_rfl) (by kernel_rfl) (by kernel_rfl) (e := Extern.BytealgCompare.compare) (by kernel_rfl), Lib.run_compareString]
  simp only [Result.andThen]
  rw [Oper.upon_value]
  go_wp2
  go_ret
  exact ⟨rfl, rfl⟩

theorem s_compare (a b : ByteArray) (w : World) :
    Calls Tryd.prog 38 #[.string a, .string b] w fun e w' => e = .returned (.int .i64 (cmpB a b)) ∧ w' = w := by
  go_enter Tryd.func38, Tryd.ntmps38
  go_wp2_with fail
  refine (s_compareString a b _).mono ?_
  rintro e w' ⟨rfl, rfl⟩
  go_wp2_with fail
  go_ret
  exact ⟨rfl, rfl⟩

/-- An entry's two cells. -/
def encE (x : En) : List Value := [.string x.1, .int .i64 x.2]

/-- Entries by their names. -/
def cfE (x y : En) : Int := cmpB x.1 y.1

set_option maxHeartbeats 1000000 in
theorem closure37 (x y : En) (W : World) : Calls Tryd.prog 37 #[.agg #[.string x.1, .int .i64 x.2], .agg #[.string y.1, .int .i64 y.2]] W fun e w' => e = .returned (.int .i64 (cfE x y)) ∧ ∃ q os', w' = grow (W.drewN q) os' := by
  unfold cfE
  go_enter Tryd.func37, Tryd.ntmps37
  go_wp2_with fail
  refine (s_compare x.1 y.1 _).mono ?_
  rintro e w' ⟨rfl, hw⟩
  subst hw
  go_wp2_with fail
  go_ret
  exact ⟨rfl, 0, _, by rw [alloc_eq_grow, alloc_eq_grow, grow_grow]; rfl⟩

theorem cmpLays37 (blk off size : Nat) (w : World) : CmpLays Tryd.prog 37 #[] encE 2 cfE blk off size w :=
  fun _ _ _ _ x y => closure37 x y _

theorem cmp_lx (l : List UInt8) : ∀ m, (Lib.compareBytes l m < 0 ↔ lx l m = true) := by
  induction l with
  | nil => intro m; cases m with
    | nil => simp [Lib.compareBytes, lx]
    | cons b m => simp [Lib.compareBytes, lx]
  | cons a l ih =>
    intro m
    cases m with
    | nil => simp [Lib.compareBytes, lx]
    | cons b m =>
      rw [Lib.compareBytes, lx_cons]
      have hab : a < b ↔ a.toNat < b.toNat := UInt8.lt_iff_toNat_lt
      have hba : b < a ↔ b.toNat < a.toNat := UInt8.lt_iff_toNat_lt
      by_cases h1 : a < b
      · rw [if_pos h1]; exact ⟨fun _ => Or.inl (hab.1 h1), fun _ => by omega⟩
      · rw [if_neg h1]
        by_cases h2 : b < a
        · rw [if_pos h2]
          have := hba.1 h2
          exact ⟨fun h => by omega, fun h => by omega⟩
        · rw [if_neg h2]
          rw [hab] at h1
          rw [hba] at h2
          have e : a.toNat = b.toNat := by omega
          rw [ih m]
          exact ⟨fun h => Or.inr ⟨e, h⟩, fun h => by
            rcases h with h | ⟨-, h⟩
            · omega
            · exact h⟩

theorem ltE (x y : En) : ltOf cfE x y = below x.1 y.1 := by
  unfold ltOf cfE cmpB below
  have h := cmp_lx x.1.data.toList y.1.data.toList
  rw [ByteArray.toList_eq, ByteArray.toList_eq]
  rcases hb : lx x.1.data.toList y.1.data.toList with _ | _
  · rw [hb] at h
    exact decide_eq_false fun hc => absurd (h.1 hc) (by simp)
  · rw [hb] at h
    simpa using h.2 rfl

theorem swoE : SWO (ltOf cfE) where
  irrefl x := by rw [ltE]; exact below_irrefl _
  trans x y z h1 h2 := by rw [ltE] at *; exact below_trans h1 h2
  ntrans x y z h1 h2 := by
    rw [ltE] at *
    rcases below_tri y.1 x.1 with e | h | h
    · rw [← e]; exact h2
    · rcases hb : below x.1 z.1 with _ | _
      · rfl
      · have := below_trans h hb
        rw [h2] at this
        cases this
    · rw [h1] at h; cases h

theorem flat_flatK (E : List En) : flatK encE 2 E.toArray = (flat E).toArray := by
  apply ext_get!
  · rw [size_flatK]; simp [flat_length]
  · intro t ht
    rw [size_flatK] at ht
    have hsz : E.toArray.size = E.length := by simp
    rw [hsz] at ht
    rw [get_flatK _ _ _ _ (by rw [hsz]; exact ht)]
    have hi : t / 2 < E.length := by omega
    have hg := flat_get E (t / 2) _ (List.getElem?_eq_getElem hi)
    have e0 : E.toArray[t / 2]! = E[t / 2] := by simp [hi]
    rw [e0]
    rcases Nat.mod_two_eq_zero_or_one t with h | h
    · rw [h]
      have et : t / 2 * 2 = t := by omega
      rw [et] at hg
      have e1 : (flat E).toArray[t]! = .string (E[t / 2]).1 := by rw [getElem!_def, List.getElem?_toArray, hg.1]
      rw [e1]
      rfl
    · rw [h]
      have et : t / 2 * 2 + 1 = t := by omega
      rw [et] at hg
      have e1 : (flat E).toArray[t]! = .int .i64 (E[t / 2]).2 := by rw [getElem!_def, List.getElem?_toArray, hg.2]
      rw [e1]
      rfl

theorem heap_sortE {w : World} {g n : Nat} {os : Array Obj} {cur : Array Value} {e : TypeId} {fr : Nat × Nat} (d : Array En) (hb : w.heap[g]? = some (.cells cur e fr)) :
    (sortWorldK encE 2 w g 0 n d os).heap[g]? = some (.cells (putCells id 0 (flatK encE 2 d) cur) e fr) := by
  have hg : g < w.heap.size := (Array.getElem?_eq_some_iff.1 hb).1
  unfold sortWorldK putRowK
  rw [heap_grow_old _ _ (by simpa using hg)]
  simp [putRow, mapBlock, Sort.ahead, Array.getElem?_modify, hb, onCells]

theorem kept_sortE {w : World} {g n : Nat} {os : Array Obj} (d : Array En) : Kept [g] w (sortWorldK encE 2 w g 0 n d os) := by
  unfold sortWorldK putRowK
  refine ⟨rfl, rfl, rfl, by simp, fun k hk hne => ?_⟩
  rw [heap_grow_old _ _ (by simpa using hk)]
  have : g ≠ k := fun e => hne (by simp [e])
  simp [putRow, mapBlock, Sort.ahead, Array.getElem?_modify, this]

theorem take_putE (cur : Array Value) (F : List Value) (h : F.length ≤ cur.size) : (putCells id 0 F.toArray cur).toList.take F.length = F := by
  apply List.ext_getElem?
  intro j
  by_cases hj : j < F.length
  · rw [List.getElem?_take_of_lt hj, Array.getElem?_toList]
    simp [putCells, hj, show j < cur.size by omega]
  · rw [List.getElem?_take_eq_none (by omega), List.getElem?_eq_none (by omega)]

set_option maxHeartbeats 1000000 in
/-- A row of entries sorted: the same entries, by name rising where no two have the same name. -/
theorem en_sort {w : World} {H : Nat} {v : Value} {E : List En} (h : Er 61 w H v E) (hl : E.length ≤ 1000000) :
    Calls Tryd.prog 36 #[v, .func (.func 37) #[] #[]] w fun e w' => e = .returned (.tuple #[]) ∧ ∃ E', Er 61 w' H v E' ∧ E'.Perm E ∧ E'.Pairwise (fun x y => below y.1 x.1 = false) ∧ Kept v.ownBlock.toList w w' := by
  rcases h.form with ⟨rfl, rfl⟩ | ⟨g, cap, cur, rfl, h2, h3, h4, h5, h6, h7⟩
  · have hcon := AnyF.slices_SortFunc_none sortEn none 0 (.func (.func 37) #[] #[]) w
    change Calls Tryd.prog 36 _ _ _ at hcon
    refine hcon.mono ?_
    rintro e w' ⟨rfl, rfl⟩
    exact ⟨rfl, [], h, List.Perm.refl _, List.Pairwise.nil, Kept.refl _ _⟩
  · have eg : ∀ args w, (callFunc 37 args).run Tryd.prog w = .ok (.enter 37 args) w := enters_of Tryd.func37 (by kernel_rfl) rfl
    have hH : HoldsK encE 2 w g 0 E.toArray := by
      unfold HoldsK
      rw [flat_flatK]
      intro j hj
      have hj' : j < (flat E).length := by simpa using hj
      rw [flat_length] at hj'
      refine ⟨?_, frozen_of_row _ _ _ _ _ h3⟩
      rw [cell_of_row _ _ _ _ _ _ h3, Nat.zero_add]
      have h8 : (cur.toList.take (E.length * 2))[j]? = (flat E)[j]? := by rw [h7]
      rw [List.getElem?_take_of_lt hj', Array.getElem?_toList] at h8
      rw [h8, getElem!_def, List.getElem?_toArray, List.getElem?_eq_getElem (by rw [flat_length]; exact hj')]
      rfl
    have hcon := AnyQ.slices_SortFunc sortEn 2 Tryd.isAgg61 Tryd.sizeOf61 encE (fun _ => rfl) (fun x v hv => by simp [encE] at hv; rcases hv with rfl | rfl <;> rfl) cfE swoE 37 #[] g 0 cap E.toArray w eg (cmpLays37 g 0 _ w) hH (lt_of_heap h3) (by simp; omega)
    change Calls Tryd.prog 36 _ _ _ at hcon
    rw [show E.toArray.size = E.length by simp] at hcon
    refine hcon.mono ?_
    rintro e w' ⟨rfl, d', n, os, hp, hs, rfl⟩
    have hds : d'.size = E.length := by have := hp.1; simpa using this
    have hdl : d'.toList.length = E.length := by simpa using hds
    refine ⟨rfl, d'.toList, ?_, ?_, ?_, by simpa [Value.ownBlock] using kept_sortE d'⟩
    · have hfl : (flat d'.toList).length = E.length * 2 := by rw [flat_length, hdl]
      have hcs := heap_sortE (n := n) (os := os) d' h3
      rw [show flatK encE 2 d' = (flat d'.toList).toArray by rw [← flat_flatK]] at hcs
      refine ⟨by rw [hfl, hdl], Or.inr ⟨g, cap, _, by rw [hdl], h2, hcs, by rw [hdl]; exact h4, h5, ?_, ?_⟩⟩
      · simp only [putCells, Array.size_mapIdx]; exact h6
      · rw [hdl, ← hfl]
        exact take_putE cur _ (by rw [hfl, h6]; omega)
    · have h9 := hp.2.2
      rw [show d'.extract 0 E.length = d' by rw [← hds]; simp, show E.toArray.extract 0 E.length = E.toArray by simp] at h9
      simpa using h9
    · rw [List.pairwise_iff_getElem]
      intro i j hi hj hij
      have h9 := hs i j (Nat.zero_le _) hij (by omega)
      rw [ltE] at h9
      have hi' : i < d'.size := by simpa using hi
      have hj' : j < d'.size := by simpa using hj
      rw [getElem!_pos d' i hi', getElem!_pos d' j hj'] at h9
      simpa using h9

/-- Rising, where the names part. -/
theorem rise_of_sorted {E : List En} (h : E.Pairwise (fun x y => below y.1 x.1 = false)) (hd : E.Pairwise (fun x y => x.1 ≠ y.1)) : Rise E := by
  unfold Rise
  refine List.Pairwise.imp₂ ?_ h hd
  intro x y h1 h2
  rcases below_tri x.1 y.1 with e | e | e
  · exact absurd e h2
  · exact e
  · rw [h1] at e; cases e

end Go.Proofs.YtnbbcbjfejdceaaDoor
