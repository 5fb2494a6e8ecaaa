/-
  The two tables of package utf8 lie where the row says, as the walks want them.
-/
import Derived.Test.YtgfdcnjnkljahaaDoorAw
import Derived.ProofKit
import Derived.LaidMore
import Derived.OpenShut
import Derived.Lay
import Derived.Stop.Joined
namespace Go.Proofs.YtgfdcnjnkljahaaDoor
open Go.ChangeShapes Go.WideShapes Go.ChangeAt Go.WideMaps Go.WideElems Go.RowKit Go.Lib

def laid2 : List (String × DataW Unit) := [("unicode/utf8.acceptRanges", Rows.laid_unicode_utf8_acceptRanges), ("unicode/utf8.first", Rows.laid_unicode_utf8_first)]

theorem own : ownKnob Tryd.prog.godebug = none := by kernel_rfl
theorem laidOut : laidOutB Tryd.prog = true := by kernel_rfl
theorem gFirst : Tryd.prog.globalNamed "unicode/utf8.first" = some 0 := by kernel_rfl
theorem tFirst : (Tryd.prog.globals[0]?).map (·.type) = some 113 := by kernel_rfl
theorem gAcc : Tryd.prog.globalNamed "unicode/utf8.acceptRanges" = some 1 := by kernel_rfl
theorem tAcc : (Tryd.prog.globals[1]?).map (·.type) = some 116 := by kernel_rfl

theorem first_listed : Rows.laid_unicode_utf8_first = .agg ((List.range 256).map fun i => .lit (.int .u8 (firstT i))) := by kernel_rfl
theorem acc_listed : (Rows.laid_unicode_utf8_acceptRanges : DataW Unit) = .agg ((List.range 16).map fun i => .agg [.lit (.int .u8 (accLo i)), .lit (.int .u8 (accHi i))]) := by kernel_rfl

/-- A world that meets the condition. -/
theorem met_laid (os : Go.Os) (args : Array Value) : laidMetH Tryd.prog laid2 ((World.laidAll Tryd.prog os laid2).forCall (fun _ _ => 0) ⟨#[], args, []⟩).memory := by
  rw [MakeChecks.laidMetH_plain _ _ _ (by kernel_rfl)]
  exact laidMet_laidAll _ (by kernel_rfl) (by kernel_rfl)

theorem head_of_take {cs : List Value} {i : Nat} {v : Value} (h : (cs.drop i).take 1 = [v]) : cs[i]? = some v := by
  have := congrArg List.head? h
  simpa [List.head?_take] using this

/-- What the condition gives the walks. -/
theorem of_laid {W : World} (h : laidMetH Tryd.prog laid2 W) : Tab W := by
  rw [MakeChecks.laidMetH_plain _ _ _ (by kernel_rfl)] at h
  obtain ⟨ps, ⟨g0, t0, cs0, f0, p0, q0, hg0, ht0, hv0, hd0, ⟨g1, t1, cs1, f1, p1, q1, hg1, ht1, hv1, hd1, _, _⟩, _⟩, _, _⟩ := h
  obtain rfl := Option.some.inj (gAcc.symm.trans hg0)
  obtain rfl := Option.some.inj (tAcc.symm.trans ht0)
  obtain rfl := Option.some.inj (gFirst.symm.trans hg1)
  obtain rfl := Option.some.inj (tFirst.symm.trans ht1)
  have c5 : Tryd.prog.cellsOf 5 = 1 := by kernel_rfl
  have c43 : Tryd.prog.cellsOf 115 = 2 := by kernel_rfl
  refine ⟨fun i hi => ?_, fun i hi => ?_⟩
  · obtain ⟨xs, m1, rfl, hx1, hlen, hn3, hel⟩ := DataW.trod_array Tryd.underlying113 hd1
    have hc := World.var?_cell hg1 hv1 i
    have h0 := hel i (by omega)
    have hix : i < xs.length := by omega
    rw [List.getElem?_eq_getElem hix] at h0
    obtain ⟨k, e1, e2, _⟩ := DataW.trod_int Tryd.underlying5 h0
    rw [c5, Nat.mul_one] at e1
    have hcs := head_of_take e1
    have hL := congrArg (fun x => x.1) hx1
    simp only [first_listed, DataW.agg.injEq] at hL
    have hLi := congrArg (fun l => l[i]?) hL
    simp only [List.getElem?_map, List.getElem?_range hi, Option.map_some, List.getElem?_eq_getElem hix, e2] at hLi
    have hk : (firstT i : Int) = k := by simpa using hLi
    rw [hc, ← Array.getElem?_toList, hcs, hk]
  · obtain ⟨xs, m1, rfl, hx1, hlen, hn3, hel⟩ := DataW.trod_array Tryd.underlying116 hd0
    have hca := World.var?_cell hg0 hv0 (2 * i)
    have hcb := World.var?_cell hg0 hv0 (2 * i + 1)
    have h0 := hel i (by omega)
    have hix : i < xs.length := by omega
    rw [List.getElem?_eq_getElem hix, c43] at h0
    obtain ⟨y0, y1, n, e0, _, d0, d1⟩ := trod_struct2 Tryd.underlying115 h0
    simp only [c5, List.drop_zero] at d0 d1
    obtain ⟨k0, e1, e2, _⟩ := DataW.trod_int Tryd.underlying5 d0
    obtain ⟨k1, e3, e4, _⟩ := DataW.trod_int Tryd.underlying5 d1
    have hL := congrArg (fun x => x.1) hx1
    simp only [acc_listed, DataW.agg.injEq] at hL
    have hLi := congrArg (fun l => l[i]?) hL
    simp only [List.getElem?_map, List.getElem?_range hi, Option.map_some, List.getElem?_eq_getElem hix, e0, e2, e4] at hLi
    have hk : (accLo i : Int) = k0 ∧ (accHi i : Int) = k1 := by simpa using hLi
    have ea : cs0.toList[2 * i]? = some (.int .u8 k0) := by
      have := congrArg (fun l => l[0]?) e1
      simp only [List.getElem?_take, List.getElem?_drop] at this
      simpa [Nat.mul_comm] using this
    have eb : cs0.toList[2 * i + 1]? = some (.int .u8 k1) := by
      have := congrArg (fun l => l[0]?) e3
      simp only [List.getElem?_take, List.getElem?_drop] at this
      simpa [Nat.mul_comm] using this
    exact ⟨by rw [hca, ← Array.getElem?_toList, ea, hk.1], by rw [hcb, ← Array.getElem?_toList, eb, hk.2]⟩

end Go.Proofs.YtgfdcnjnkljahaaDoor
