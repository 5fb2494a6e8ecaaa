/-
  What is wrong with a closed state, by reckoning.
-/
import Derived.Test.YtgfdcnjnkljahaaDoorWc
namespace Go.Proofs.YtgfdcnjnkljahaaDoor
open Go.RowKit Go.Lib Go.Maps
set_option linter.unusedVariables false
set_option linter.unusedSimpArgs false

/-- Few parts, by reckoning. -/
def fewB (S : Sta) : Bool :=
  decide (S.ino.length ≤ 100) && (decide (S.opn.length ≤ 100) && (decide (S.made.length ≤ 100) && (S.ino.all (fun x => decide (x.ents.length ≤ 100) && ((Lit.int .i64 x.num).wf && (x.ents.all (fun e => (Lit.int .i64 e.2).wf && decide (e.1.size ≤ 1000)) && decide (x.data.size ≤ 100000)))) && S.opn.all (fun d => (Lit.int .i64 d.2.2).wf))))

theorem few_of {S : Sta} (h : fewB S = true) : Few S := by
  unfold fewB at h
  simp only [Bool.and_eq_true, decide_eq_true_eq, List.all_eq_true] at h
  obtain ⟨h1, h2, h3, h4, h5⟩ := h
  exact ⟨h1, h2, h3, fun x hx => (h4 x hx).1, fun x hx => (h4 x hx).2.1, fun x hx e he => ((h4 x hx).2.2.1 e he).1, fun d hd => h5 d hd, fun x hx e he => ((h4 x hx).2.2.1 e he).2, fun x hx => (h4 x hx).2.2.2⟩

/-- A state and what is wrong with it, by reckoning. -/
def okS (S : Sta) (M : List Fi) : Bool := fewB S && ((foundL S).length == S.ino.length && ((heapR S).all (fun f => decide (f.name.size ≤ 1000)) && decide (findR S = M)))

theorem sv_mk {w : World} {p : Pl} {S : Sta} (h1 : InoA w p.a1 S.ino) (h2 : DesA w p.a2 S.opn) (h3 : IntA w p.a3 S.made) (hf : Few S) (k1 : S.ino.length ≤ p.c1) (k2 : S.opn.length ≤ p.c2) (k3 : S.made.length ≤ p.c3) : Sv w p S :=
  ⟨h1, h2, h3, by have := hf.n1; unfold lim; omega, by have := hf.n2; unfold lim; omega, by have := hf.n3; unfold lim; omega, fun x hx => by have := hf.e1 x hx; unfold lim; omega, fun x hx => (hf.w1 x hx).le, k1, k2, k3, trivial, trivial⟩

/-- Findings are answered. -/
def Finds (w : World) (M : List Fi) (e : Ending) (w' : World) : Prop := ∃ a cap, e = .returned (.slice a M.length cap) ∧ FiA w' a M ∧ Kept [] w w'

theorem p_Check {w : World} {p : Pl} {S : Sta} {M : List Fi} (hs : Sv w p S) (hT : Tab w) (hf : Few S) (hfl : (foundL S).length = S.ino.length) (hn : ∀ f ∈ heapR S, f.name.size ≤ 1000) (hM : findR S = M) :
    Calls Tryd.prog 11 #[sval p S] w (Finds w M) := by
  refine Calls.mono (p_State hs hT hf hfl (fun f h => by have := hn f h; omega)) ?_
  rintro e w' ⟨vr, rfl, h1, h2⟩
  rw [hM] at h1
  obtain ⟨a, cap, rfl, h3⟩ := h1.fia
  exact ⟨a, cap, rfl, h3, h2⟩

theorem p_Checks {w : World} {p : Pl} {S : Sta} {M : List Fi} (hs : Sv w p S) (hT : Tab w) (hok : okS S M = true) :
    Calls Tryd.prog 11 #[sval p S] w (Finds w M) := by
  unfold okS at hok
  simp only [Bool.and_eq_true, decide_eq_true_eq, List.all_eq_true, beq_iff_eq] at hok
  obtain ⟨h1, h2, h3, h4⟩ := hok
  exact p_Check hs hT (few_of h1) h2 h3 h4

/-- A name's entry alone. -/
@[reducible] def rootA : Ino := ⟨1, true, [(⟨#[97]⟩, 2)], ⟨#[]⟩⟩
@[reducible] def S0 : Sta := ⟨[rootI], [], [0]⟩
@[reducible] def S1 : Sta := ⟨[rootA], [], [0]⟩
@[reducible] def M1 : List Fi := [⟨2, 1, ⟨#[97]⟩⟩]

theorem ok_0 : okS S0 [] = true := by kernel_rfl
theorem ok_1 : okS S1 M1 = true := by kernel_rfl

theorem few_0 : Few S0 := few_of (by kernel_rfl)
theorem few_1 : Few S1 := few_of (by kernel_rfl)

theorem n_num (w : World) (e : Int) : Calls Tryd.prog 17 #[.int .i64 e] w fun x w' => x = .returned (.int .i64 e) ∧ w' = w := by
  go_enter Tryd.func17, Tryd.ntmps17
  go_wp2
  go_ret
  exact ⟨rfl, rfl⟩

end Go.Proofs.YtgfdcnjnkljahaaDoor
