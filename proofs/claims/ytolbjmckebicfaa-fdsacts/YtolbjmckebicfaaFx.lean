/-
  Descriptors of package fds in an arena's words: the state, and a contract for each function of the package but List.
-/
import Derived.Test.YtolbjmckebicfaaHs
import Derived.Deep.RegionHeld3
namespace Go.Proofs.Ytolbjmckebicfaa
open Go.RowKit
set_option linter.unusedVariables false

theorem ret_int {k : IntKind} {x y : Int} (h : x = y) : Ending.returned (.int k x) = .returned (.int k y) := by rw [h]

theorem wrap_small (c : Int) (h0 : -1000000 ≤ c) (h1 : c ≤ 1000000) : wrap64 c = c := by
  unfold wrap64
  omega

theorem i64_small (c : Int) (h0 : -1000000 ≤ c) (h1 : c ≤ 1000000) : IntKind.i64.wrap c = c := by
  rw [IntKind.wrap_i64]
  omega

/-- What lies in the block of the descriptors. -/
def box (b f : Nat) : Obj := .cells #[.pointer (some ⟨b, 0, none⟩), .int .i64 (f : Int)] 55 (0, 0)

/-- Traces by core. -/
abbrev Trc := Nat → List (Int × Bool)

/-- An access more of core c. -/
def tput (t : Trc) (c : Nat) (x : Int × Bool) : Trc := fun d => if d = c then t c ++ [x] else t d

/-- A core's trace forgotten. -/
def tclr (t : Trc) (c : Nat) : Trc := fun d => if d = c then [] else t d

/-- A descriptor's word turned. -/
def upd (W : Nat → Nat → Int) (c d : Nat) (v : Int) : Nat → Nat → Int := fun c' d' => if c' = c ∧ d' = d then v else W c' d'

/-- Where a core's descriptor lies. -/
def pl (f c d : Nat) : Nat := f + 4 * c + d

/-- Descriptors made since w0: I tells what the traces may be; N bounds the accesses of a core; W are the numbers by core and descriptor. -/
structure Fb (I : Trc → Prop) (S : List (Nat × Obj)) (w0 w : World) (b g f k L N : Nat) (W : Nat → Nat → Int) : Prop where
  klo : 1 ≤ k
  khi : k ≤ 8
  fit : f + 4 * k ≤ L
  lhi : L ≤ 65536
  mem : (g, box b f) ∈ S
  st : ∀ t c d bw, c < k → d < 4 → I t → I (tput t c ((pl f c d : Int), bw))
  ar : ∃ A, Hs S w0 w b A ∧ A.words.length = L ∧ A.traces.length = k ∧ (∀ c, (A.traces.getD c []).length ≤ N) ∧ I (fun c => A.traces.getD c []) ∧ ∀ c d, c < k → d < 4 → wordAt A.words (pl f c d) = W c d

theorem words_any {w : World} {p : Ap} {A : Ar} (h : ArIs 52 w p A) :
    Calls Try.prog 20 #[.pointer (some ⟨p.b, 0, none⟩)] w fun e w' => e = .returned (.int .i64 (A.words.length : Int)) ∧ w' = w := by
  obtain ⟨c0, c1⟩ := h.cell
  go_enter Try.func20, Try.ntmps20
  go_wp2
  go_ret
  exact ⟨rfl, rfl⟩

theorem h_words {S : List (Nat × Obj)} {w0 w : World} {b : Nat} {A : Ar} (h : Hs S w0 w b A) : Calls Try.prog 20 #[.pointer (some ⟨b, 0, none⟩)] w fun e w' => e = .returned (.int .i64 (A.words.length : Int)) ∧ w' = w := by
  obtain ⟨hK, p, rfl, hf, hm, hs⟩ := h
  exact words_any hm

theorem Hs.turn {S : List (Nat × Obj)} {w0 w w' : World} {b : Nat} {A : Ar} (h : Hs S w0 w b A) (F : List Nat) (hF : ∀ x ∈ F, ∃ o, (x, o) ∈ S) (hk : Kept F w w') (S' : List (Nat × Obj)) (hS : ∀ x ∈ S', (w.heap.size ≤ x.1 ∨ ∃ o, (x.1, o) ∈ S) ∧ w'.heap[x.1]? = some x.2) : Hs S' w0 w' b A := by
  obtain ⟨hK, p, hb, hf, hm, hs⟩ := h
  have hFp : ∀ k ∈ p.blocks, k ∉ F := fun k hk hkF => by
    obtain ⟨o, ho⟩ := hF k hkF
    exact (hs _ ho).2.1 hk
  refine ⟨hK.trans hk (fun x hx => ?_), p, hb, hf, hm.kept hk hFp, fun x hx => ?_⟩
  · obtain ⟨o, ho⟩ := hF x hx
    exact Or.inr (hs _ ho).1
  · obtain ⟨h1, h2⟩ := hS x hx
    rcases h1 with h1 | ⟨o, ho⟩
    · exact ⟨Nat.le_trans hK.size h1, fun hx => absurd (hm.blocks_lt _ hx) (by omega), h2⟩
    · exact ⟨(hs _ ho).1, (hs _ ho).2.1, h2⟩

section
variable {I : Trc → Prop} {S : List (Nat × Obj)} {w0 w : World} {b g f k L N : Nat} {W V : Nat → Nat → Int}

theorem Fb.still (h : Fb I S w0 w b g f k L N W) {w' : World} (hk : Kept [] w w') : Fb I S w0 w' b g f k L N W := by
  obtain ⟨a1, a2, a3, a4, hS, hI, A, hH, h1⟩ := h
  exact ⟨a1, a2, a3, a4, hS, hI, A, hH.still hk, h1⟩

theorem Fb.mono (h : Fb I S w0 w b g f k L N W) {N' : Nat} (hN : N ≤ N') : Fb I S w0 w b g f k L N' W := by
  obtain ⟨a1, a2, a3, a4, hS, hI, A, hH, h1, h2, h3, h4⟩ := h
  exact ⟨a1, a2, a3, a4, hS, hI, A, hH, h1, h2, fun c => Nat.le_trans (h3 c) hN, h4⟩

theorem Fb.as (h : Fb I S w0 w b g f k L N W) {W' : Nat → Nat → Int} (hW : ∀ c d, c < k → d < 4 → W c d = W' c d) : Fb I S w0 w b g f k L N W' := by
  obtain ⟨a1, a2, a3, a4, hS, hI, A, hH, h1, h2, h3, h4, h5⟩ := h
  exact ⟨a1, a2, a3, a4, hS, hI, A, hH, h1, h2, h3, h4, fun c d hc hd => (h5 c d hc hd).trans (hW c d hc hd)⟩

theorem Fb.push (h : Fb I S w0 w b g f k L N W) (o : Obj) : Fb I ((w.heap.size, o) :: S) w0 (w.alloc o) b g f k L N W := by
  obtain ⟨a1, a2, a3, a4, hS, hI, A, hH, h1⟩ := h
  exact ⟨a1, a2, a3, a4, List.mem_cons_of_mem _ hS, hI, A, hH.push o, h1⟩

theorem Fb.at_ (h : Fb I S w0 w b g f k L N W) {x : Nat × Obj} (hx : x ∈ S) : w.heap[x.1]? = some x.2 := by
  obtain ⟨a1, a2, a3, a4, hS, hI, A, ⟨hK, p, hb, hf, hm, hs⟩, -⟩ := h
  exact (hs x hx).2.2

theorem Fb.lt (h : Fb I S w0 w b g f k L N W) : ∀ x ∈ S, x.1 < w.heap.size := fun x hx => lt_of_heap (h.at_ hx)

theorem Fb.cells (h : Fb I S w0 w b g f k L N W) : w.cell? ⟨g, 0, none⟩ = some (.pointer (some ⟨b, 0, none⟩)) ∧ w.cell? ⟨g, 1, none⟩ = some (.int .i64 (f : Int)) := by
  obtain ⟨a1, a2, a3, a4, hS, hI, A, hH, -⟩ := h
  exact ⟨hH.cell hS rfl, hH.cell hS rfl⟩

theorem Fb.cell (h : Fb I S w0 w b g f k L N W) {m : Nat} {cs : Array Value} {t : TypeId} (hg : (m, .cells cs t (0, 0)) ∈ S) {i : Nat} {v : Value} (hi : cs[i]? = some v) : w.cell? ⟨m, i, none⟩ = some v := by
  obtain ⟨a1, a2, a3, a4, hS, hI, A, hH, -⟩ := h
  exact hH.cell hg hi

theorem Fb.frozen (h : Fb I S w0 w b g f k L N W) {m : Nat} {cs : Array Value} {t : TypeId} (hg : (m, .cells cs t (0, 0)) ∈ S) (i : Nat) : w.frozen? ⟨m, i, none⟩ = false := by
  obtain ⟨a1, a2, a3, a4, hS, hI, A, hH, -⟩ := h
  exact hH.frozen hg i

theorem Fb.old (h : Fb I S w0 w b g f k L N W) : Kept [] w0 w := by
  obtain ⟨a1, a2, a3, a4, hS, hI, A, hH, -⟩ := h
  exact hH.old

theorem Fb.turn {w' : World} (h : Fb I S w0 w b g f k L N W) (F : List Nat) (hF : ∀ x ∈ F, ∃ o, (x, o) ∈ S) (hk : Kept F w w') (S' : List (Nat × Obj)) (hg : (g, box b f) ∈ S') (hS : ∀ x ∈ S', (w.heap.size ≤ x.1 ∨ ∃ o, (x.1, o) ∈ S) ∧ w'.heap[x.1]? = some x.2) : Fb I S' w0 w' b g f k L N W := by
  obtain ⟨a1, a2, a3, a4, hS', hI, A, hH, h1⟩ := h
  exact ⟨a1, a2, a3, a4, hg, hI, A, hH.turn F hF hk S' hS, h1⟩

theorem Fb.fewer {S' : List (Nat × Obj)} (h : Fb I S w0 w b g f k L N W) (hS : ∀ x ∈ S', x ∈ S) (hg : (g, box b f) ∈ S') : Fb I S' w0 w b g f k L N W :=
  h.turn [] (by simp) (Kept.refl [] w) S' hg fun x hx => ⟨Or.inr ⟨x.2, hS x hx⟩, h.at_ (hS x hx)⟩

theorem n_cores (h : Fb I S w0 w b g f k L N W) : Calls Try.prog 19 #[.pointer (some ⟨b, 0, none⟩)] w fun e w' => e = .returned (.int .i64 (k : Int)) ∧ w' = w := by
  obtain ⟨a1, a2, a3, a4, hS, hI, A, hH, h1, rfl, -⟩ := h
  exact h_cores hH

theorem touch_many {A : Ar} {N : Nat} (h : ∀ c, (A.traces.getD c []).length ≤ N) {c : Nat} (hc : c < A.traces.length) (j : Nat) (ch : Option Int) : ∀ d, ((A.touch c j ch).traces.getD d []).length ≤ N + 1 := by
  intro d
  rw [touch_trace _ _ _ _ _ hc]
  by_cases e : d = c
  · subst e; rw [if_pos rfl, List.length_append]; have := h d; simp only [List.length_cons, List.length_nil]; omega
  · rw [if_neg e]; have := h d; omega

theorem touch_put (A : Ar) {c : Nat} (hc : c < A.traces.length) (j : Nat) (ch : Option Int) : (fun d => (A.touch c j ch).traces.getD d []) = tput (fun d => A.traces.getD d []) c ((j : Int), ch.isSome) := by
  funext d
  rw [touch_trace _ _ _ _ _ hc]
  rfl

theorem set_word {xs : List Int} {i j : Nat} {v : Int} (hi : i < xs.length) : wordAt (xs.set i v) j = if j = i then v else wordAt xs j := by
  unfold wordAt
  rw [List.getD, List.getD, List.getElem?_set]
  by_cases h : j = i
  · subst h; rw [if_pos rfl, if_pos rfl, if_pos hi]; rfl
  · rw [if_neg (Ne.symm h), if_neg h]

theorem pl_lt {f c d k L : Nat} (hc : c < k) (hd : d < 4) (hf : f + 4 * k ≤ L) : pl f c d < L := by unfold pl; omega

theorem pl_eq {f c d c' d' : Nat} (hd : d < 4) (hd' : d' < 4) : pl f c' d' = pl f c d ↔ c' = c ∧ d' = d := by unfold pl; omega

theorem a_load (h : Fb I S w0 w b g f k L N W) (c d : Nat) (x : Int) (hx : x = (pl f c d : Int)) (hc : c < k) (hd : d < 4) (hN : N < 1000000) :
    Calls Try.prog 30 #[.pointer (some ⟨b, 0, none⟩), .int .i64 (c : Int), .int .i64 x] w fun e w' => e = .returned (.tuple #[.int .i64 (W c d), .int .i64 0]) ∧ Fb I S w0 w' b g f k L (N + 1) W := by
  subst hx
  obtain ⟨a1, a2, a3, a4, hS, hI, A, hH, h1, h2, h3, h4, h5⟩ := h
  have hp := pl_lt hc hd a3
  refine (h_load hH (c : Int) (pl f c d : Int) (by omega) (by omega) (by omega) (by omega) (by have := h3 c; simp only [Int.toNat_natCast]; omega)).mono ?_
  rintro e w' ⟨rfl, h6⟩
  simp only [Int.toNat_natCast] at h6 ⊢
  refine ⟨by rw [h5 c d hc hd], a1, a2, a3, a4, hS, hI, _, h6, h1, by rw [touch_cores]; exact h2, touch_many h3 (by omega) _ _, ?_, fun c d hc hd => by rw [touch_words0]; exact h5 c d hc hd⟩
  rw [touch_put _ (by omega)]
  exact hI _ _ _ _ hc hd h4

theorem a_store (h : Fb I S w0 w b g f k L N W) (c d : Nat) (x : Int) (hx : x = (pl f c d : Int)) (v : Int) (hc : c < k) (hd : d < 4) (hN : N < 1000000) :
    Calls Try.prog 28 #[.pointer (some ⟨b, 0, none⟩), .int .i64 (c : Int), .int .i64 x, .int .i64 v] w fun e w' => e = .returned (.int .i64 0) ∧ Fb I S w0 w' b g f k L (N + 1) (upd W c d v) := by
  subst hx
  obtain ⟨a1, a2, a3, a4, hS, hI, A, hH, h1, h2, h3, h4, h5⟩ := h
  have hp := pl_lt hc hd a3
  refine (h_store hH (c : Int) (pl f c d : Int) v (by omega) (by omega) (by omega) (by omega) (by have := h3 c; simp only [Int.toNat_natCast]; omega)).mono ?_
  rintro e w' ⟨rfl, h6⟩
  simp only [Int.toNat_natCast] at h6
  refine ⟨rfl, a1, a2, a3, a4, hS, hI, _, h6, by rw [touch_words, List.length_set]; exact h1, by rw [touch_cores]; exact h2, touch_many h3 (by omega) _ _, ?_, fun c' d' hc' hd' => ?_⟩
  · rw [touch_put _ (by omega)]
    exact hI _ _ _ _ hc hd h4
  · rw [touch_words, set_word (by omega)]
    unfold upd
    by_cases e : c' = c ∧ d' = d
    · rw [if_pos ((pl_eq hd hd').2 e), if_pos e]
    · rw [if_neg (fun e' => e ((pl_eq hd hd').1 e')), if_neg e]; exact h5 c' d' hc' hd'

theorem p_at (h : Fb I S w0 w b g f k L N W) (c d : Nat) (y : Int) (hy : y = (d : Int)) (hc : c < k) (hd : d < 4) :
    Calls Try.prog 29 #[.pointer (some ⟨g, 0, none⟩), .int .i64 (c : Int), .int .i64 y] w fun e w' => e = .returned (.int .i64 (pl f c d : Int)) ∧ w' = w := by
  subst hy
  obtain ⟨c0, c1⟩ := h.cells
  have hf := h.fit
  have hl := h.lhi
  have e0 : wrap64 ((c : Int) * 4) = (c : Int) * 4 := wrap_small _ (by omega) (by omega)
  have e1 : wrap64 ((f : Int) + (c : Int) * 4) = (f : Int) + (c : Int) * 4 := wrap_small _ (by omega) (by omega)
  have e2 : wrap64 ((f : Int) + (c : Int) * 4 + (d : Int)) = (f : Int) + (c : Int) * 4 + (d : Int) := wrap_small _ (by omega) (by omega)
  have HE : Hid (_ ∧ _ ∧ _) := ⟨e0, e1, e2⟩
  clear e0 e1 e2 h
  go_enter Try.func29, Try.ntmps29
  go_wp2_with fail
  go_ret
  refine ⟨ret_int ?_, rfl⟩
  first
    | (rw [HE.out.1, HE.out.2.1, HE.out.2.2]; unfold pl; omega)
    | (unfold pl; unfold wrap64; omega)
    | (unfold pl; omega)

end

end Go.Proofs.Ytolbjmckebicfaa
