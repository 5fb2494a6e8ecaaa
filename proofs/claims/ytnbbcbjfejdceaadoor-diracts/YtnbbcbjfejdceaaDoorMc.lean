/-
  What an act makes of a row of entries and answers; the directory's call, and the law's own.
-/
import Derived.Test.YtnbbcbjfejdceaaDoorMb
import Derived.Test.YtnbbcbjfejdceaaDoorWk
namespace Go.Proofs.YtnbbcbjfejdceaaDoor
open Go.RowKit
set_option linter.unusedVariables false

/-- A core and a name that may be. -/
def Gd (c : Int) (s : ByteArray) : Prop := 0 ≤ c ∧ c ≤ 3 ∧ chk s = 0

/-- What an act makes of E, and answers. -/
inductive Ac (E : List En) (kd c num : Int) (s t : ByteArray) : Int → Int → List En → Prop
  | bad (h : ¬ Gd c s) : Ac E kd c num s t 0 900 E
  | num (h : Gd c s) (hk : kd < 5) (hn : num < 1 ∨ 2147483647 < num) : Ac E kd c num s t 0 900 E
  | exist (h : Gd c s) (hk : kd < 5) (hn : 1 ≤ num ∧ num ≤ 2147483647) (x : Int) (hx : (s, x) ∈ E) : Ac E kd c num s t 0 901 E
  | full (h : Gd c s) (hk : kd < 5) (hn : 1 ≤ num ∧ num ≤ 2147483647) (hx : ∀ x ∈ E, x.1 ≠ s) (hf : 4 ≤ many E (bkt s) noname) : Ac E kd c num s t 0 902 E
  | put (h : Gd c s) (hk : kd < 5) (hn : 1 ≤ num ∧ num ≤ 2147483647) (hx : ∀ x ∈ E, x.1 ≠ s) (hf : ¬ 4 ≤ many E (bkt s) noname) : Ac E kd c num s t 0 0 (putE E (s, num))
  | mbad (h : Gd c s) (hk : kd = 7 ∨ kd = 8) (ht : chk t ≠ 0) : Ac E kd c num s t 0 900 E
  | mnone (h : Gd c s) (hk : kd = 7 ∨ kd = 8) (ht : chk t = 0) (hx : ∀ x ∈ E, x.1 ≠ s) : Ac E kd c num s t 0 903 E
  | mexist (h : Gd c s) (hk : kd = 7 ∨ kd = 8) (ht : chk t = 0) (x y : Int) (hx : (s, x) ∈ E) (hy : (t, y) ∈ E) : Ac E kd c num s t 0 901 E
  | mfull (h : Gd c s) (hk : kd = 7 ∨ kd = 8) (ht : chk t = 0) (x : Int) (hx : (s, x) ∈ E) (hy : ∀ x ∈ E, x.1 ≠ t) (hf : 4 ≤ many E (bkt t) s) : Ac E kd c num s t 0 902 E
  | move (h : Gd c s) (hk : kd = 7 ∨ kd = 8) (ht : chk t = 0) (x : Int) (hx : (s, x) ∈ E) (hy : ∀ x ∈ E, x.1 ≠ t) (hf : ¬ 4 ≤ many E (bkt t) s) : Ac E kd c num s t 0 0 (putE (dropE E s) (t, x))
  | none (h : Gd c s) (hk : 5 ≤ kd ∧ kd ≠ 7 ∧ kd ≠ 8) (hx : ∀ x ∈ E, x.1 ≠ s) : Ac E kd c num s t 0 903 E
  | drop (h : Gd c s) (hk : 5 ≤ kd ∧ kd < 7) (x : Int) (hx : (s, x) ∈ E) : Ac E kd c num s t 0 0 (dropE E s)
  | find (h : Gd c s) (hk : 9 ≤ kd) (x : Int) (hx : (s, x) ∈ E) : Ac E kd c num s t x 0 E

theorem Ac.total (E : List En) (kd c num : Int) (s t : ByteArray) : ∃ v z E', Ac E kd c num s t v z E' := by
  by_cases h : Gd c s
  · by_cases hk : kd < 5
    · by_cases hn : num < 1 ∨ 2147483647 < num
      · exact ⟨_, _, _, .num h hk hn⟩
      · rcases here_or E s with ⟨x, hx⟩ | hx
        · exact ⟨_, _, _, .exist h hk (by omega) x hx⟩
        · by_cases hf : 4 ≤ many E (bkt s) noname
          · exact ⟨_, _, _, .full h hk (by omega) hx hf⟩
          · exact ⟨_, _, _, .put h hk (by omega) hx hf⟩
    · by_cases hk2 : kd = 7 ∨ kd = 8
      · by_cases ht : chk t = 0
        · rcases here_or E s with ⟨x, hx⟩ | hx
          · rcases here_or E t with ⟨y, hy⟩ | hy
            · exact ⟨_, _, _, .mexist h hk2 ht x y hx hy⟩
            · by_cases hf : 4 ≤ many E (bkt t) s
              · exact ⟨_, _, _, .mfull h hk2 ht x hx hy hf⟩
              · exact ⟨_, _, _, .move h hk2 ht x hx hy hf⟩
          · exact ⟨_, _, _, .mnone h hk2 ht hx⟩
        · exact ⟨_, _, _, .mbad h hk2 ht⟩
      · rcases here_or E s with ⟨x, hx⟩ | hx
        · by_cases hk3 : kd < 7
          · exact ⟨_, _, _, .drop h (by omega) x hx⟩
          · exact ⟨_, _, _, .find h (by omega) x hx⟩
        · exact ⟨_, _, _, .none h (by omega) hx⟩
  · exact ⟨_, _, _, .bad h⟩

theorem Gd.core {c : Int} {s : ByteArray} (h : Gd c s) : ∃ c' : Nat, c' < 4 ∧ c = (c' : Int) := ⟨c.toNat, by have := h.1; have := h.2.1; omega, by have := h.1; omega⟩

theorem Gd.not {c : Int} {s : ByteArray} (h : ¬ Gd c s) : ¬ ((0 ≤ c ∧ c < ((4 : Nat) : Int)) ∧ chk s = 0) := fun ⟨⟨h1, h2⟩, h3⟩ => h ⟨h1, by omega, h3⟩

section
variable {S : List (Nat × Obj)} {w0 w : World} {b g f L N : Nat} {E E' : List En} {kd c num v z : Int} {s t : ByteArray}

theorem p_insert (h : Dd AnyT S w0 w b g f 4 L N E) (hA : Ac E kd c num s t v z E') (hk : kd < 5) (hN : N < 700000) :
    Calls Tryd.prog 10 #[.pointer (some ⟨g, 0, none⟩), .int .i64 c, .string s, .int .i64 num] w fun e w' => e = .returned (.int .i64 z) ∧ v = 0 ∧ Dd AnyT S w0 w' b g f 4 L (N + 30) E' := by
  cases hA with
  | bad hg => exact (e_insert_bad h c s num (Gd.not hg)).mono fun _ _ ⟨he, hd⟩ => ⟨he, rfl, hd.mono (by omega)⟩
  | num hg _ hn =>
    obtain ⟨c', hc, rfl⟩ := hg.core
    exact (e_insert_num h c' s num hc hg.2.2 hn).mono fun _ _ ⟨he, hd⟩ => ⟨he, rfl, hd.mono (by omega)⟩
  | exist hg _ hn x hx =>
    obtain ⟨c', hc, rfl⟩ := hg.core
    obtain ⟨n, hn8, hb⟩ := bkt_nat s
    exact (e_insert_exist h c' n s num ⟨x, hx⟩ hb hc hn.1 hn.2 (anyR _ _ _) (anyW _ _ _) (by omega)).mono fun _ _ ⟨he, hd⟩ => ⟨he, rfl, hd.mono (by omega)⟩
  | full hg _ hn hx hf =>
    obtain ⟨c', hc, rfl⟩ := hg.core
    obtain ⟨n, hn8, hb⟩ := bkt_nat s
    rw [hb] at hf
    exact (e_insert_full h c' n s num hg.2.2 hx hf hb hc hn.1 hn.2 (anyR _ _ _) (anyW _ _ _) (by omega)).mono fun _ _ ⟨he, hd⟩ => ⟨he, rfl, hd.mono (by omega)⟩
  | put hg _ hn hx hf =>
    obtain ⟨c', hc, rfl⟩ := hg.core
    obtain ⟨n, hn8, hb⟩ := bkt_nat s
    rw [hb] at hf
    exact (e_insert_ok h c' n s num hg.2.2 hx hf hb hc hn.1 hn.2 (anyR _ _ _) (anyW _ _ _) (by omega)).mono fun _ _ ⟨he, hd⟩ => ⟨he, rfl, hd.mono (by omega)⟩
  | mbad _ h2 => omega
  | mnone _ h2 => omega
  | mexist _ h2 => omega
  | mfull _ h2 => omega
  | move _ h2 => omega
  | none _ h2 => omega
  | drop _ h2 => omega
  | find _ h2 => omega

theorem p_remove (h : Dd AnyT S w0 w b g f 4 L N E) (hA : Ac E kd c num s t v z E') (hk : 5 ≤ kd) (hk2 : kd < 7) (hN : N < 700000) :
    Calls Tryd.prog 12 #[.pointer (some ⟨g, 0, none⟩), .int .i64 c, .string s] w fun e w' => e = .returned (.int .i64 z) ∧ v = 0 ∧ Dd AnyT S w0 w' b g f 4 L (N + 30) E' := by
  cases hA with
  | bad hg => exact (e_remove_bad h c s (Gd.not hg)).mono fun _ _ ⟨he, hd⟩ => ⟨he, rfl, hd.mono (by omega)⟩
  | none hg _ hx =>
    obtain ⟨c', hc, rfl⟩ := hg.core
    obtain ⟨n, hn8, hb⟩ := bkt_nat s
    exact (e_remove_no h c' n s hg.2.2 hx hb hc (anyR _ _ _) (anyW _ _ _) (by omega)).mono fun _ _ ⟨he, hd⟩ => ⟨he, rfl, hd.mono (by omega)⟩
  | drop hg _ x hx =>
    obtain ⟨c', hc, rfl⟩ := hg.core
    obtain ⟨n, hn8, hb⟩ := bkt_nat s
    exact (e_remove_yes h c' n s x hx hb hc (anyR _ _ _) (anyW _ _ _) (by omega)).mono fun _ _ ⟨he, hd⟩ => ⟨he, rfl, hd.mono (by omega)⟩
  | num _ h2 => omega
  | exist _ h2 => omega
  | full _ h2 => omega
  | put _ h2 => omega
  | mbad _ h2 => omega
  | mnone _ h2 => omega
  | mexist _ h2 => omega
  | mfull _ h2 => omega
  | move _ h2 => omega
  | find _ h2 => omega

theorem p_move (h : Dd AnyT S w0 w b g f 4 L N E) (hA : Ac E kd c num s t v z E') (hk : 7 ≤ kd) (hk2 : kd < 9) (hN : N < 700000) :
    Calls Tryd.prog 13 #[.pointer (some ⟨g, 0, none⟩), .int .i64 c, .string s, .string t] w fun e w' => e = .returned (.int .i64 z) ∧ v = 0 ∧ Dd AnyT S w0 w' b g f 4 L (N + 30) E' := by
  cases hA with
  | bad hg => exact (e_move_bad h c s t (fun ⟨h1, h2, _⟩ => Gd.not hg ⟨h1, h2⟩)).mono fun _ _ ⟨he, hd⟩ => ⟨he, rfl, hd.mono (by omega)⟩
  | mbad hg _ ht => exact (e_move_bad h c s t (fun ⟨_, _, h2⟩ => ht h2)).mono fun _ _ ⟨he, hd⟩ => ⟨he, rfl, hd.mono (by omega)⟩
  | mnone hg _ ht hx =>
    obtain ⟨c', hc, rfl⟩ := hg.core
    exact (e_move_none h c' s t hg.2.2 ht hx hc (fun n _ => anyR _ _ n) (fun n _ => anyW _ _ n) (by omega)).mono fun _ _ ⟨he, hd⟩ => ⟨he, rfl, hd⟩
  | mexist hg _ ht x y hx hy =>
    obtain ⟨c', hc, rfl⟩ := hg.core
    exact (e_move_exist h c' s t x hx ⟨y, hy⟩ hc (fun n _ => anyR _ _ n) (fun n _ => anyW _ _ n) (by omega)).mono fun _ _ ⟨he, hd⟩ => ⟨he, rfl, hd⟩
  | mfull hg _ ht x hx hy hf =>
    obtain ⟨c', hc, rfl⟩ := hg.core
    exact (e_move_full h c' s t x ht hx hy hf hc (fun n _ => anyR _ _ n) (fun n _ => anyW _ _ n) (by omega)).mono fun _ _ ⟨he, hd⟩ => ⟨he, rfl, hd⟩
  | move hg _ ht x hx hy hf =>
    obtain ⟨c', hc, rfl⟩ := hg.core
    exact (e_move_ok h c' s t x ht hx hy hf hc (fun n _ => anyR _ _ n) (fun n _ => anyW _ _ n) (by omega)).mono fun _ _ ⟨he, hd⟩ => ⟨he, rfl, hd⟩
  | num _ h2 => omega
  | exist _ h2 => omega
  | full _ h2 => omega
  | put _ h2 => omega
  | none _ h2 => omega
  | drop _ h2 => omega
  | find _ h2 => omega

theorem p_find (h : Dd AnyT S w0 w b g f 4 L N E) (hA : Ac E kd c num s t v z E') (hk : 9 ≤ kd) (hN : N < 700000) :
    Calls Tryd.prog 14 #[.pointer (some ⟨g, 0, none⟩), .int .i64 c, .string s] w fun e w' => e = .returned (.tuple #[.int .i64 v, .int .i64 z]) ∧ Dd AnyT S w0 w' b g f 4 L (N + 30) E' := by
  cases hA with
  | bad hg => exact (e_find_bad h c s (Gd.not hg)).mono fun _ _ ⟨he, hd⟩ => ⟨he, hd.mono (by omega)⟩
  | none hg _ hx =>
    obtain ⟨c', hc, rfl⟩ := hg.core
    obtain ⟨n, hn8, hb⟩ := bkt_nat s
    exact (e_find_no h c' n s hg.2.2 hx hb hc (anyR _ _ _) (by omega)).mono fun _ _ ⟨he, hd⟩ => ⟨he, hd.mono (by omega)⟩
  | find hg _ x hx =>
    obtain ⟨c', hc, rfl⟩ := hg.core
    obtain ⟨n, hn8, hb⟩ := bkt_nat s
    exact (e_find_yes h c' n s _ hx hb hc (anyR _ _ _) (by omega)).mono fun _ _ ⟨he, hd⟩ => ⟨he, hd.mono (by omega)⟩
  | num _ h2 => omega
  | exist _ h2 => omega
  | full _ h2 => omega
  | put _ h2 => omega
  | mbad _ h2 => omega
  | mnone _ h2 => omega
  | mexist _ h2 => omega
  | mfull _ h2 => omega
  | move _ h2 => omega
  | drop _ h2 => omega

end

section
variable {I : Trc → Prop} {S : List (Nat × Obj)} {w0 w : World} {b g f k L N : Nat} {E0 : List En} {mb : Nat} {E : List En}

theorem Md.push (h : Md I S w0 w b g f k L N E0 mb E) (o : Obj) : Md I ((w.heap.size, o) :: S) w0 (w.alloc o) b g f k L N E0 mb E := by
  obtain ⟨u, D, h1, h2, h3, h4, h5⟩ := h
  have hn := h2.ne_new
  refine ⟨u, D, h1, (h2.push o).fewer (fun x hx => ?_) (by simp [h5]), fun x hx y hy => ?_, fun y hy => ?_, by simp [h5]⟩
  · rcases List.mem_append.1 hx with hx | hx
    · simp [hx]
    · rcases List.mem_cons.1 hx with hx | hx
      · simp [hx]
      · rcases List.mem_cons.1 hx with hx | hx
        · simp [hx]
        · simp [hx]
  · rcases List.mem_cons.1 hy with hy | hy
    · exact h3 x hx y (by simp [hy])
    · rcases List.mem_cons.1 hy with rfl | hy
      · exact fun e => hn x (by simp [hx]) e.symm
      · exact h3 x hx y (by simp [hy])
  · rcases List.mem_cons.1 hy with rfl | hy
    · exact fun e => hn (mb, mbx u) (by simp) e.symm
    · exact h4 y hy

theorem Md.less {x : Nat × Obj} (h : Md I (x :: S) w0 w b g f k L N E0 mb E) (hS : (g, box b f) ∈ S) : Md I S w0 w b g f k L N E0 mb E := by
  obtain ⟨u, D, h1, h2, h3, h4, h5⟩ := h
  refine ⟨u, D, h1, h2.fewer (fun y hy => ?_) (by simp [hS]), fun x hx y hy => h3 x hx y ?_, fun y hy => h4 y (by simp [hy]), hS⟩
  · rcases List.mem_append.1 hy with hy | hy
    · simp [hy]
    · rcases List.mem_cons.1 hy with hy | hy
      · simp [hy]
      · simp [hy]
  · rcases List.mem_cons.1 hy with hy | hy
    · simp [hy]
    · simp [hy]

theorem Md.at_ (h : Md I S w0 w b g f k L N E0 mb E) {x : Nat × Obj} (hx : x ∈ S) : w.heap[x.1]? = some x.2 := by
  obtain ⟨u, D, h1, h2, h3, h4, h5⟩ := h
  exact h2.at_ (by simp [hx])

theorem Md.start (h : Dd I S w0 w b g f k L N E0) : Md I S w0 (w.alloc (mbx (.slice none 0 0))) b g f k L N E0 w.heap.size [] :=
  ⟨.slice none 0 0, [], Or.inl ⟨rfl, rfl, rfl⟩, h.push _, by simp, h.ne_new, h.mem⟩

end

theorem erase_drop {E : List En} (h : Rise E) {i : Nat} {s : ByteArray} {y : Int} (hi : E[i]? = some (s, y)) : E.eraseIdx i = dropE E s := by
  obtain ⟨hl, he⟩ := List.getElem?_eq_some_iff.1 hi
  refine rise_ext (rise_drop h i) (rise_dropE h s) fun x => ?_
  rw [mem_drop h hl, mem_dropE, he]

/-- An act's block. -/
abbrev xob (kd c num : Int) (s t : ByteArray) : Obj := .cells #[.int .i64 kd, .int .i64 c, .int .i64 num, .string s, .string t] 32 (0, 0)

theorem xob_cells {W : World} {B : Nat} {kd c num : Int} {s t : ByteArray} (h : W.heap[B]? = some (xob kd c num s t)) : W.cell? ⟨B, 0, none⟩ = some (.int .i64 kd) ∧ W.cell? ⟨B, 1, none⟩ = some (.int .i64 c) ∧ W.cell? ⟨B, 2, none⟩ = some (.int .i64 num) ∧ W.cell? ⟨B, 3, none⟩ = some (.string s) ∧ W.cell? ⟨B, 4, none⟩ = some (.string t) :=
  ⟨(cell_of_row _ _ _ _ _ _ h).trans rfl, (cell_of_row _ _ _ _ _ _ h).trans rfl, (cell_of_row _ _ _ _ _ _ h).trans rfl, (cell_of_row _ _ _ _ _ _ h).trans rfl, (cell_of_row _ _ _ _ _ _ h).trans rfl⟩

end Go.Proofs.YtnbbcbjfejdceaaDoor
