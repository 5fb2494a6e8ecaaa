/-
  A directory of package dir, by its entries: what Find, Insert, Remove and Move answer, and which entries are there behind.
-/
import Derived.Test.YtnbbcbjfejdceaaDoorSl
namespace Go.Proofs.YtnbbcbjfejdceaaDoor
open Go.RowKit
set_option linter.unusedVariables false

/-- A directory that has the entries E. -/
def Dd (I : Trc → Prop) (S : List (Nat × Obj)) (w0 w : World) (b g f k L N : Nat) (E : List En) : Prop := ∃ T, Good T ∧ Rel T E ∧ Db I S w0 w b g f k L N (sw T)

/-- The empty text. -/
def noname : ByteArray := ⟨#[]⟩

theorem chk_noname : chk noname ≠ 0 := by
  unfold chk noname
  rw [if_neg (by decide), if_pos (Or.inl (by rw [ByteArray.toList_eq]))]
  decide

theorem tk_none {T : Sts} {but : ByteArray} {t : Nat} (h : tk T but t = true) : T t ≠ none := fun e => by unfold tk at h; rw [e] at h; cases h

theorem tk_some {T : Sts} (but : ByteArray) {t : Nat} (h : T t ≠ none) (hn : ∀ x, T t = some x → x.1 ≠ but) : tk T but t = true := by
  unfold tk
  rcases hT : T t with _ | x
  · exact absurd hT h
  · simpa using hn x hT

section
variable {I : Trc → Prop} {S : List (Nat × Obj)} {w0 w : World} {b g f k L N : Nat} {E : List En}

theorem Dd.mono (h : Dd I S w0 w b g f k L N E) {N' : Nat} (hN : N ≤ N') : Dd I S w0 w b g f k L N' E := by
  obtain ⟨T, h1, h2, h3⟩ := h
  exact ⟨T, h1, h2, h3.mono hN⟩

theorem Dd.still (h : Dd I S w0 w b g f k L N E) {w' : World} (hk : Kept [] w w') : Dd I S w0 w' b g f k L N E := by
  obtain ⟨T, h1, h2, h3⟩ := h
  exact ⟨T, h1, h2, h3.still hk⟩

theorem Dd.weak (h : Dd I S w0 w b g f k L N E) {I' : Trc → Prop} (hI : ∀ t, I t → I' t) : Dd I' S w0 w b g f k L N E := by
  obtain ⟨T, h1, h2, h3⟩ := h
  exact ⟨T, h1, h2, h3.weak hI⟩

theorem Dd.old (h : Dd I S w0 w b g f k L N E) : Kept [] w0 w := by
  obtain ⟨T, h1, h2, h3⟩ := h
  exact h3.old

theorem Dd.rise (h : Dd I S w0 w b g f k L N E) : Rise E := by
  obtain ⟨T, h1, h2, h3⟩ := h
  exact h2.1

theorem Dd.may (h : Dd I S w0 w b g f k L N E) {x : En} (hx : x ∈ E) : chk x.1 = 0 := by
  obtain ⟨T, h1, h2, h3⟩ := h
  obtain ⟨t, ht, hT⟩ := (h2.2 x).1 hx
  exact h1.may t x ht hT

theorem Dd.few (h : Dd I S w0 w b g f k L N E) : E.length ≤ 32 := by
  obtain ⟨T, h1, h2, h3⟩ := h
  have hp : E.Perm (tl T 32) := (List.perm_ext_iff_of_nodup (rise_nodup h2.1) (tl_nodup h1)).2 fun x => by rw [h2.2 x, mem_tl]
  rw [hp.length_eq]
  exact tl_len T 32

theorem e_find_bad (h : Dd I S w0 w b g f k L N E) (c : Int) (s : ByteArray) (hb : ¬ ((0 ≤ c ∧ c < (k : Int)) ∧ chk s = 0)) :
    Calls Tryd.prog 14 #[.pointer (some ⟨g, 0, none⟩), .int .i64 c, .string s] w fun e w' => e = .returned (.tuple #[.int .i64 0, .int .i64 900]) ∧ Dd I S w0 w' b g f k L N E := by
  obtain ⟨T, h1, h2, h3⟩ := h
  exact (d_find_bad h3 c s hb).mono fun _ _ ⟨he, hd⟩ => ⟨he, T, h1, h2, hd⟩

theorem e_find_yes (h : Dd I S w0 w b g f k L N E) (c n : Nat) (s : ByteArray) (x : Int) (hx : (s, x) ∈ E) (hn : bkt s = (n : Int)) (hc : c < k) (hI : Rd I c f n) (hN : N < 800000) :
    Calls Tryd.prog 14 #[.pointer (some ⟨g, 0, none⟩), .int .i64 (c : Int), .string s] w fun e w' => e = .returned (.tuple #[.int .i64 x, .int .i64 0]) ∧ Dd I S w0 w' b g f k L (N + 12) E := by
  obtain ⟨T, h1, h2, h3⟩ := h
  obtain ⟨t, ht, hT⟩ := (h2.2 _).1 hx
  obtain ⟨n', i, hn8, hi, rfl, hb, hF⟩ := find_yes h1 ht hT
  have e : n' = n := by omega
  subst e
  refine (d_find_go h3 c n' s (h1.may _ _ ht hT) hn hc hI (by omega) x 0 (Or.inr ⟨i, hi, hF, ?_, rfl⟩)).mono fun _ _ ⟨he, hd⟩ => ⟨he, T, h1, h2, hd⟩
  rw [show n' * 12 + i * 3 = (n' * 4 + i) * 3 by omega, sw_0, hT]

theorem e_find_no (h : Dd I S w0 w b g f k L N E) (c n : Nat) (s : ByteArray) (hs : chk s = 0) (hno : ∀ x ∈ E, x.1 ≠ s) (hn : bkt s = (n : Int)) (hc : c < k) (hI : Rd I c f n) (hN : N < 800000) :
    Calls Tryd.prog 14 #[.pointer (some ⟨g, 0, none⟩), .int .i64 (c : Int), .string s] w fun e w' => e = .returned (.tuple #[.int .i64 0, .int .i64 903]) ∧ Dd I S w0 w' b g f k L (N + 12) E := by
  obtain ⟨T, h1, h2, h3⟩ := h
  have hn8 : n < 8 := by have := bkt_range s; omega
  exact (d_find_go h3 c n s hs hn hc hI (by omega) 0 903 (Or.inl ⟨find_no h1 hs (h2.no hno) hn8, rfl, rfl⟩)).mono fun _ _ ⟨he, hd⟩ => ⟨he, T, h1, h2, hd⟩

theorem e_remove_bad (h : Dd I S w0 w b g f k L N E) (c : Int) (s : ByteArray) (hb : ¬ ((0 ≤ c ∧ c < (k : Int)) ∧ chk s = 0)) :
    Calls Tryd.prog 12 #[.pointer (some ⟨g, 0, none⟩), .int .i64 c, .string s] w fun e w' => e = .returned (.int .i64 900) ∧ Dd I S w0 w' b g f k L N E := by
  obtain ⟨T, h1, h2, h3⟩ := h
  exact (d_remove_bad h3 c s hb).mono fun _ _ ⟨he, hd⟩ => ⟨he, T, h1, h2, hd⟩

theorem e_remove_yes (h : Dd I S w0 w b g f k L N E) (c n : Nat) (s : ByteArray) (x : Int) (hx : (s, x) ∈ E) (hn : bkt s = (n : Int)) (hc : c < k) (hI : Rd I c f n) (hJ : Wr I c f n) (hN : N < 800000) :
    Calls Tryd.prog 12 #[.pointer (some ⟨g, 0, none⟩), .int .i64 (c : Int), .string s] w fun e w' => e = .returned (.int .i64 0) ∧ Dd I S w0 w' b g f k L (N + 15) (dropE E s) := by
  obtain ⟨T, h1, h2, h3⟩ := h
  obtain ⟨t, ht, hT⟩ := (h2.2 _).1 hx
  obtain ⟨n', i, hn8, hi, rfl, hb, hF⟩ := find_yes h1 ht hT
  have e : n' = n := by omega
  subst e
  exact (d_remove_go h3 c n' s (h1.may _ _ ht hT) hn hc hI hJ hN 0 (sw (setT T (n' * 4 + i) none)) (Or.inr ⟨i, hi, hF, rfl, by rw [← sw_clr]; congr 1; omega⟩)).mono fun _ _ ⟨he, hd⟩ => ⟨he, _, good_clr h1 _, rel_clr h1 h2 ht hT, hd⟩

theorem e_remove_no (h : Dd I S w0 w b g f k L N E) (c n : Nat) (s : ByteArray) (hs : chk s = 0) (hno : ∀ x ∈ E, x.1 ≠ s) (hn : bkt s = (n : Int)) (hc : c < k) (hI : Rd I c f n) (hJ : Wr I c f n) (hN : N < 800000) :
    Calls Tryd.prog 12 #[.pointer (some ⟨g, 0, none⟩), .int .i64 (c : Int), .string s] w fun e w' => e = .returned (.int .i64 903) ∧ Dd I S w0 w' b g f k L (N + 15) E := by
  obtain ⟨T, h1, h2, h3⟩ := h
  have hn8 : n < 8 := by have := bkt_range s; omega
  exact (d_remove_go h3 c n s hs hn hc hI hJ hN 903 (sw T) (Or.inl ⟨find_no h1 hs (h2.no hno) hn8, rfl, rfl⟩)).mono fun _ _ ⟨he, hd⟩ => ⟨he, T, h1, h2, hd⟩

theorem e_insert_bad (h : Dd I S w0 w b g f k L N E) (c : Int) (s : ByteArray) (num : Int) (hb : ¬ ((0 ≤ c ∧ c < (k : Int)) ∧ chk s = 0)) :
    Calls Tryd.prog 10 #[.pointer (some ⟨g, 0, none⟩), .int .i64 c, .string s, .int .i64 num] w fun e w' => e = .returned (.int .i64 900) ∧ Dd I S w0 w' b g f k L N E := by
  obtain ⟨T, h1, h2, h3⟩ := h
  exact (d_insert_bad h3 c s num hb).mono fun _ _ ⟨he, hd⟩ => ⟨he, T, h1, h2, hd⟩

theorem e_insert_num (h : Dd I S w0 w b g f k L N E) (c : Nat) (s : ByteArray) (num : Int) (hc : c < k) (hs : chk s = 0) (hnum : num < 1 ∨ 2147483647 < num) :
    Calls Tryd.prog 10 #[.pointer (some ⟨g, 0, none⟩), .int .i64 (c : Int), .string s, .int .i64 num] w fun e w' => e = .returned (.int .i64 900) ∧ Dd I S w0 w' b g f k L N E := by
  obtain ⟨T, h1, h2, h3⟩ := h
  exact (d_insert_num h3 c s num hc hs hnum).mono fun _ _ ⟨he, hd⟩ => ⟨he, T, h1, h2, hd⟩

theorem e_insert_exist (h : Dd I S w0 w b g f k L N E) (c n : Nat) (s : ByteArray) (num : Int) (hx : ∃ x, (s, x) ∈ E) (hn : bkt s = (n : Int)) (hc : c < k) (hn1 : 1 ≤ num) (hn2 : num ≤ 2147483647) (hI : Rd I c f n) (hJ : Wr I c f n) (hN : N < 800000) :
    Calls Tryd.prog 10 #[.pointer (some ⟨g, 0, none⟩), .int .i64 (c : Int), .string s, .int .i64 num] w fun e w' => e = .returned (.int .i64 901) ∧ Dd I S w0 w' b g f k L (N + 15) E := by
  obtain ⟨T, h1, h2, h3⟩ := h
  obtain ⟨x, hx⟩ := hx
  obtain ⟨t, ht, hT⟩ := (h2.2 _).1 hx
  obtain ⟨n', i, hn8, hi, rfl, hb, hF⟩ := find_yes h1 ht hT
  have e : n' = n := by omega
  subst e
  exact (d_insert_go h3 c n' s num (h1.may _ _ ht hT) hn hc hn1 hn2 hI hJ hN 901 (sw T) (Or.inl ⟨i, hi, hF, rfl, rfl⟩)).mono fun _ _ ⟨he, hd⟩ => ⟨he, T, h1, h2, hd⟩

theorem full_in {T : Sts} (G : Good T) (R : Rel T E) {n : Nat} (hn : n < 8) : 4 ≤ many E (n : Int) noname ↔ ∀ i, i < 4 → T (n * 4 + i) ≠ none := by
  rw [full_iff G R hn]
  constructor
  · exact fun h i hi => tk_none (h i hi)
  · exact fun h i hi => tk_some _ (h i hi) fun x hx e => chk_noname (e ▸ G.may _ _ (by omega) hx)

theorem e_insert_full (h : Dd I S w0 w b g f k L N E) (c n : Nat) (s : ByteArray) (num : Int) (hs : chk s = 0) (hno : ∀ x ∈ E, x.1 ≠ s) (hf : 4 ≤ many E (n : Int) noname) (hn : bkt s = (n : Int)) (hc : c < k) (hn1 : 1 ≤ num) (hn2 : num ≤ 2147483647) (hI : Rd I c f n) (hJ : Wr I c f n) (hN : N < 800000) :
    Calls Tryd.prog 10 #[.pointer (some ⟨g, 0, none⟩), .int .i64 (c : Int), .string s, .int .i64 num] w fun e w' => e = .returned (.int .i64 902) ∧ Dd I S w0 w' b g f k L (N + 15) E := by
  obtain ⟨T, h1, h2, h3⟩ := h
  have hn8 : n < 8 := by have := bkt_range s; omega
  have hff : fnd (fun j => sw T (n * 12 + j)) 0 0 = -1 := by
    rcases find_free h1 hn8 with h | ⟨i, hi, -, hT⟩
    · exact h.1
    · exact absurd hT ((full_in h1 h2 hn8).1 hf i hi)
  exact (d_insert_go h3 c n s num hs hn hc hn1 hn2 hI hJ hN 902 (sw T) (Or.inr (Or.inl ⟨find_no h1 hs (h2.no hno) hn8, hff, rfl, rfl⟩))).mono fun _ _ ⟨he, hd⟩ => ⟨he, T, h1, h2, hd⟩

theorem e_insert_ok (h : Dd I S w0 w b g f k L N E) (c n : Nat) (s : ByteArray) (num : Int) (hs : chk s = 0) (hno : ∀ x ∈ E, x.1 ≠ s) (hf : ¬ 4 ≤ many E (n : Int) noname) (hn : bkt s = (n : Int)) (hc : c < k) (hn1 : 1 ≤ num) (hn2 : num ≤ 2147483647) (hI : Rd I c f n) (hJ : Wr I c f n) (hN : N < 800000) :
    Calls Tryd.prog 10 #[.pointer (some ⟨g, 0, none⟩), .int .i64 (c : Int), .string s, .int .i64 num] w fun e w' => e = .returned (.int .i64 0) ∧ Dd I S w0 w' b g f k L (N + 15) (putE E (s, num)) := by
  obtain ⟨T, h1, h2, h3⟩ := h
  have hn8 : n < 8 := by have := bkt_range s; omega
  obtain ⟨i, hi, hF, hT⟩ : ∃ i : Nat, i < 4 ∧ fnd (fun j => sw T (n * 12 + j)) 0 0 = (i : Int) ∧ T (n * 4 + i) = none := by
    rcases find_free h1 hn8 with h | h
    · exact absurd ((full_in h1 h2 hn8).2 h.2) hf
    · exact h
  exact (d_insert_go h3 c n s num hs hn hc hn1 hn2 hI hJ hN 0 (sw (setT T (n * 4 + i) (some (s, num)))) (Or.inr (Or.inr ⟨find_no h1 hs (h2.no hno) hn8, i, hi, hF, rfl, by rw [← sw_put]; congr 1; omega⟩))).mono fun _ _ ⟨he, hd⟩ => ⟨he, _, good_put h1 hs (h2.no hno) (by omega) (by rw [hn]; congr 1; omega) num, rel_put h2 hno (by omega) hT num, hd⟩

theorem e_move_bad (h : Dd I S w0 w b g f k L N E) (c : Int) (s t : ByteArray) (hb : ¬ ((0 ≤ c ∧ c < (k : Int)) ∧ chk s = 0 ∧ chk t = 0)) :
    Calls Tryd.prog 13 #[.pointer (some ⟨g, 0, none⟩), .int .i64 c, .string s, .string t] w fun e w' => e = .returned (.int .i64 900) ∧ Dd I S w0 w' b g f k L N E := by
  obtain ⟨T, h1, h2, h3⟩ := h
  exact (d_move_bad h3 c s t hb).mono fun _ _ ⟨he, hd⟩ => ⟨he, T, h1, h2, hd⟩

theorem bkt_nat (s : ByteArray) : ∃ n : Nat, n < 8 ∧ bkt s = (n : Int) := ⟨(bkt s).toNat, by have := bkt_range s; omega, by have := bkt_range s; omega⟩

theorem e_move_none (h : Dd I S w0 w b g f k L N E) (c : Nat) (s t : ByteArray) (hs : chk s = 0) (ht : chk t = 0) (hno : ∀ x ∈ E, x.1 ≠ s) (hc : c < k) (hI : ∀ n, n < 8 → Rd I c f n) (hJ : ∀ n, n < 8 → Wr I c f n) (hN : N < 800000) :
    Calls Tryd.prog 13 #[.pointer (some ⟨g, 0, none⟩), .int .i64 (c : Int), .string s, .string t] w fun e w' => e = .returned (.int .i64 903) ∧ Dd I S w0 w' b g f k L (N + 30) E := by
  obtain ⟨T, h1, h2, h3⟩ := h
  obtain ⟨n, hn8, hn⟩ := bkt_nat s
  obtain ⟨m, hm8, hm⟩ := bkt_nat t
  exact (d_move_go h3 c n m s t hs ht hn hm hc (hI n hn8) (hJ n hn8) (hI m hm8) (hJ m hm8) hN 903 (sw T) (Or.inl ⟨find_no h1 hs (h2.no hno) hn8, rfl, rfl⟩)).mono fun _ _ ⟨he, hd⟩ => ⟨he, T, h1, h2, hd⟩

theorem e_move_exist (h : Dd I S w0 w b g f k L N E) (c : Nat) (s t : ByteArray) (x : Int) (hx : (s, x) ∈ E) (hy : ∃ y, (t, y) ∈ E) (hc : c < k) (hI : ∀ n, n < 8 → Rd I c f n) (hJ : ∀ n, n < 8 → Wr I c f n) (hN : N < 800000) :
    Calls Tryd.prog 13 #[.pointer (some ⟨g, 0, none⟩), .int .i64 (c : Int), .string s, .string t] w fun e w' => e = .returned (.int .i64 901) ∧ Dd I S w0 w' b g f k L (N + 30) E := by
  obtain ⟨T, h1, h2, h3⟩ := h
  obtain ⟨u, hu, hT⟩ := (h2.2 _).1 hx
  obtain ⟨n, i, hn8, hi, rfl, hn, hF⟩ := find_yes h1 hu hT
  obtain ⟨y, hy⟩ := hy
  obtain ⟨u', hu', hT'⟩ := (h2.2 _).1 hy
  obtain ⟨m, j, hm8, hj, rfl, hm, hF'⟩ := find_yes h1 hu' hT'
  exact (d_move_go h3 c n m s t (h1.may _ _ hu hT) (h1.may _ _ hu' hT') hn hm hc (hI n hn8) (hJ n hn8) (hI m hm8) (hJ m hm8) hN 901 (sw T) (Or.inr ⟨i, hi, hF, Or.inl ⟨j, hj, hF', rfl, rfl⟩⟩)).mono fun _ _ ⟨he, hd⟩ => ⟨he, T, h1, h2, hd⟩

/-- Whether Move finds the bucket full. -/
theorem full_mv {T : Sts} (G : Good T) (R : Rel T E) {s : ByteArray} {x : Int} {n i m : Nat} (hn8 : n < 8) (hi : i < 4) (hm8 : m < 8) (hT : T (n * 4 + i) = some (s, x)) : 4 ≤ many E (m : Int) s ↔ m ≠ n ∧ ∀ j, j < 4 → T (m * 4 + j) ≠ none := by
  rw [full_iff G R hm8]
  constructor
  · intro h
    refine ⟨fun e => ?_, fun j hj => tk_none (h j hj)⟩
    subst e
    have := h i hi
    unfold tk at this
    rw [hT] at this
    simp at this
  · rintro ⟨hne, h⟩ j hj
    refine tk_some _ (h j hj) fun y hy e => ?_
    have := G.one _ _ _ _ (by omega) (by omega) hy hT e
    omega

theorem e_move_full (h : Dd I S w0 w b g f k L N E) (c : Nat) (s t : ByteArray) (x : Int) (ht : chk t = 0) (hx : (s, x) ∈ E) (hno : ∀ x ∈ E, x.1 ≠ t) (hf : 4 ≤ many E (bkt t) s) (hc : c < k) (hI : ∀ n, n < 8 → Rd I c f n) (hJ : ∀ n, n < 8 → Wr I c f n) (hN : N < 800000) :
    Calls Tryd.prog 13 #[.pointer (some ⟨g, 0, none⟩), .int .i64 (c : Int), .string s, .string t] w fun e w' => e = .returned (.int .i64 902) ∧ Dd I S w0 w' b g f k L (N + 30) E := by
  obtain ⟨T, h1, h2, h3⟩ := h
  obtain ⟨u, hu, hT⟩ := (h2.2 _).1 hx
  obtain ⟨n, i, hn8, hi, rfl, hn, hF⟩ := find_yes h1 hu hT
  obtain ⟨m, hm8, hm⟩ := bkt_nat t
  rw [hm] at hf
  obtain ⟨hne, hall⟩ := (full_mv h1 h2 hn8 hi hm8 hT).1 hf
  have hff : fnd (fun j => sw T (m * 12 + j)) 0 0 = -1 := by
    rcases find_free h1 hm8 with h | ⟨j, hj, -, hT⟩
    · exact h.1
    · exact absurd hT (hall j hj)
  exact (d_move_go h3 c n m s t (h1.may _ _ hu hT) ht hn hm hc (hI n hn8) (hJ n hn8) (hI m hm8) (hJ m hm8) hN 902 (sw T) (Or.inr ⟨i, hi, hF, Or.inr (Or.inl ⟨find_no h1 ht (h2.no hno) hm8, hne, hff, rfl, rfl⟩)⟩)).mono fun _ _ ⟨he, hd⟩ => ⟨he, T, h1, h2, hd⟩

theorem e_move_ok (h : Dd I S w0 w b g f k L N E) (c : Nat) (s t : ByteArray) (x : Int) (ht : chk t = 0) (hx : (s, x) ∈ E) (hno : ∀ x ∈ E, x.1 ≠ t) (hf : ¬ 4 ≤ many E (bkt t) s) (hc : c < k) (hI : ∀ n, n < 8 → Rd I c f n) (hJ : ∀ n, n < 8 → Wr I c f n) (hN : N < 800000) :
    Calls Tryd.prog 13 #[.pointer (some ⟨g, 0, none⟩), .int .i64 (c : Int), .string s, .string t] w fun e w' => e = .returned (.int .i64 0) ∧ Dd I S w0 w' b g f k L (N + 30) (putE (dropE E s) (t, x)) := by
  obtain ⟨T, h1, h2, h3⟩ := h
  obtain ⟨u, hu, hT⟩ := (h2.2 _).1 hx
  obtain ⟨n, i, hn8, hi, rfl, hn, hF⟩ := find_yes h1 hu hT
  obtain ⟨m, hm8, hm⟩ := bkt_nat t
  rw [hm] at hf
  have hTt := h2.no hno
  obtain ⟨j, hj, hjj, hfree⟩ : ∃ j : Nat, j < 4 ∧ ((m = n ∧ j = i) ∨ (m ≠ n ∧ fnd (fun j => sw T (m * 12 + j)) 0 0 = (j : Int))) ∧ setT T (n * 4 + i) none (m * 4 + j) = none := by
    by_cases e : m = n
    · exact ⟨i, hi, Or.inl ⟨e, rfl⟩, by rw [e]; exact setT_at _ _ _⟩
    · rcases find_free h1 hm8 with h | ⟨j, hj, hF', hT'⟩
      · exact absurd ((full_mv h1 h2 hn8 hi hm8 hT).2 ⟨e, h.2⟩) hf
      · exact ⟨j, hj, Or.inr ⟨e, hF'⟩, by rw [setT_ne _ _ (by omega)]; exact hT'⟩
  have hTc : ∀ u y, u < 32 → setT T (n * 4 + i) none u ≠ some (t, y) := fun u y hu' hTu => by
    by_cases e : u = n * 4 + i
    · rw [e, setT_at] at hTu; cases hTu
    · rw [setT_ne _ _ e] at hTu; exact hTt u y hu' hTu
  have hE : ∀ y ∈ dropE E s, y.1 ≠ t := fun y hy => hno y (mem_dropE.1 hy).1
  refine (d_move_go h3 c n m s t (h1.may _ _ hu hT) ht hn hm hc (hI n hn8) (hJ n hn8) (hI m hm8) (hJ m hm8) hN 0 (sw (setT (setT T (n * 4 + i) none) (m * 4 + j) (some (t, x)))) (Or.inr ⟨i, hi, hF, Or.inr (Or.inr ⟨find_no h1 ht hTt hm8, j, hj, hjj, rfl, ?_⟩)⟩)).mono fun _ _ ⟨he, hd⟩ => ⟨he, _, good_put (good_clr h1 _) ht hTc (by omega) (by rw [hm]; congr 1; omega) x, rel_put (rel_clr h1 h2 hu hT) hE (by omega) hfree x, hd⟩
  rw [← sw_put, ← sw_clr, show n * 12 + i * 3 = (n * 4 + i) * 3 by omega, show m * 12 + j * 3 = (m * 4 + j) * 3 by omega, sw_0, hT]

end
end Go.Proofs.YtnbbcbjfejdceaaDoor
