/-
  Joined of my texts Ya.
-/
import Derived.Test.YtffncojcnbhblaaGreatDoorJd30
import Derived.Test.YtffncojcnbhblaaGreatDoorJd8
import Derived.Deep.RegionHeld3
import Derived.Test.YtffncojcnbhblaaGreatDoorTk
set_option linter.unusedVariables false
set_option linter.unusedSimpArgs false
set_option maxRecDepth 100000
set_option maxHeartbeats 8000000
namespace Go.Proofs.YtffncojcnbhblaaGreatDoor
open List renaming setIfInBounds_toArray → lz0, set_cons_zero → lz1, set_cons_succ → lz2, getElem_toArray → lz3, getElem_cons_zero → lz4, getElem_cons_succ → lz5
open Go.RowKit
theorem make_words (n : Nat) (h : n ≤ 65536) (w : World) : (Instr.makeSlice 25 (.int .i64 (n : Int)) (.int .i64 (n : Int))).run Tryz.prog w = .ok (.slice (some ⟨w.heap.size, 0, none⟩) n n) (w.alloc (.cells (i64s (List.replicate n 0)) 3)) := by
 obtain ⟨i0, hi, hz0, hz1, hz2⟩ := info_parts info3
 have := run_make (P := Tryz.prog) w 25 3 i0 (.int .i64 0) Tryz.underlying25 hi hz0 .i64 .i64 n n (by omega) (by omega) (by rw [hz2]; omega) (by omega)
 rw [this]
 have e : madeCells (Value.int .i64 0).cells ((n : Int).toNat * i0.size) = i64s (List.replicate n 0) := by
  apply Array.ext'
  rw [hz1]
  simp [toList_madeCells_one, Value.cells, i64s]
 rw [e]
 simp
theorem rcheck_as (s : ByteArray) (z : Int) (h : chk s = 0) (w : World) : Calls Tryz.prog 10 #[.string s] w fun e w' => e = .returned (.int .i64 0) ∧ w' = w := by
 have := f_check s w (by have := (chk_size h).1; omega)
 rw [h] at this
 exact this
theorem rbelow_as {a b : ByteArray} {r : Bool} (ha : a.size ≤ 12) (hb : b.size ≤ 12) (h : below a b = r) (w : World) : Calls Tryz.prog 11 #[.string a, .string b] w fun e w' => e = .returned (.bool r) ∧ Kept [] w w' := by
 refine (f_below a b w ha hb).mono ?_
 rintro e w' ⟨rfl, m, rfl⟩
 exact ⟨by rw [h], (Kept.refl [] w).drewN m⟩
theorem rat_as {w : World} {p : Pl} {S : Sta} (h : Sv w p S) (num : Int) (o : Option Nat) (ho : atR S.ino num = o) : Calls Tryz.prog 94 #[sval p S, .int .i64 num] w fun e w' => e = .returned (.int .i64 (ixI o)) ∧ Kept [] w w' := by
 rw [← ho]
 exact r_at h num
theorem rbucket_as (s : ByteArray) (b : Nat) (hs : s.size ≤ 12) (h : bkt s = (b : Int)) (w : World) : Calls Tryz.prog 123 #[.string s] w fun e w' => e = .returned (.int .i64 (b : Int)) ∧ w' = w := by
 rw [← h]
 exact f_bucket s w (by omega)
def mny (E : List En) (b : Nat) : Nat := E.countP fun e => bkt e.1 == (b : Int)
theorem mny_take {E : List En} {n : Nat} {x : En} (h : E[n]? = some x) (b : Nat) : mny (E.take (n + 1)) b = mny (E.take n) b + if bkt x.1 = (b : Int) then 1 else 0 := by
 unfold mny
 rw [List.take_add_one, h, List.countP_append]
 congr 1
 by_cases e : bkt x.1 = (b : Int)
 · simp [e]
 · simp [e]
theorem mny_le (E : List En) (b : Nat) : mny E b ≤ E.length := List.countP_le_length
def OkE (S : Sta) (E : List En) (i : Nat) (e : En) : Prop :=
 chk e.1 = 0 ∧ (∀ o, 0 < i → E[i - 1]? = some o → below o.1 e.1 = true) ∧ e.2 ≠ 1 ∧ atR S.ino e.2 ≠ none ∧ ∀ b : Nat, bkt e.1 = (b : Int) → mny (E.take (i + 1)) b ≤ 4
def EntsP (S : Sta) (E : List En) : Prop := ∀ i e, E[i]? = some e → OkE S E i e
structure Ek (w0 w : World) (X Y M : Nat) (p : Pl) (S : Sta) (xv : Array Value) (F : Nat → Value) : Prop where
 k : Kept [] w0 w
 hx : w.heap[X]? = some (sbox p S)
 hy : w.heap[Y]? = some (.cells xv 62 (0, 0))
 hm : w.heap[M]? = some (.cells (rowF 8 F) 3 (0, 0))
 mx : X ≠ M
 my : Y ≠ M
 lo : w0.heap.size ≤ M
theorem Ek.kept {w0 w w' : World} {X Y M : Nat} {p : Pl} {S : Sta} {xv : Array Value} {F : Nat → Value} (h : Ek w0 w X Y M p S xv F) (k : Kept [] w w') : Ek w0 w' X Y M p S xv F :=
 ⟨h.k.trans k (by simp), (k.block X (lt_of_heap h.hx) (by simp)).trans h.hx, (k.block Y (lt_of_heap h.hy) (by simp)).trans h.hy, (k.block M (lt_of_heap h.hm) (by simp)).trans h.hm, h.mx, h.my, h.lo⟩
theorem Ek.put {w0 w : World} {X Y M : Nat} {p : Pl} {S : Sta} {xv : Array Value} {F : Nat → Value} (h : Ek w0 w X Y M p S xv F) (i : Nat) (v : Value) : Ek w0 (w.setCell ⟨M, i, none⟩ v) X Y M p S xv (updV F i v) :=
 ⟨h.k.setCell (Or.inr h.lo) _, (block_other h.mx).trans h.hx, (block_other h.my).trans h.hy, by rw [← rowF_set]; exact block_set h.hm i v, h.mx, h.my, h.lo⟩
def mnV (E : List En) (n : Nat) : Nat → Value := fun b => .int .i64 ((mny (E.take n) b : Nat) : Int)
theorem mnV_next {E : List En} {n : Nat} {x : En} (h : E[n]? = some x) {b : Nat} (hb : bkt x.1 = (b : Int)) : updV (mnV E n) b (.int .i64 ((mny (E.take n) b : Nat) + 1 : Int)) = mnV E (n + 1) := by
 funext c
 unfold updV mnV
 by_cases e : c = b
 ·
  subst e
  rw [if_pos rfl, mny_take h, if_pos hb]
  rfl
 ·
  rw [if_neg e, mny_take h, if_neg (by rw [hb]; omega)]
  rfl
theorem rd_kept {w w' : World} {X Y Z n1 : Nat} {ae : Option Addr} {ce : Nat} {t : ByteArray} {z : Int} {p : Pl} {S : Sta} (h : w.cell? ⟨Z, 0, none⟩ = some (.string t) ∧ w.cell? ⟨Z, 1, none⟩ = some (.int .i64 z) ∧ w.cell? ⟨Y, 2, none⟩ = some (.slice ae n1 ce) ∧ w.cell? ⟨X, 0, none⟩ = some (.slice p.a1 S.ino.length p.c1) ∧ w.cell? ⟨X, 1, none⟩ = some (.slice p.a2 S.opn.length p.c2) ∧ w.cell? ⟨X, 2, none⟩ = some (.slice p.a3 S.made.length p.c3)) (k : Kept [] w w') :
  w'.cell? ⟨Z, 0, none⟩ = some (.string t) ∧ w'.cell? ⟨Z, 1, none⟩ = some (.int .i64 z) ∧ w'.cell? ⟨Y, 2, none⟩ = some (.slice ae n1 ce) ∧ w'.cell? ⟨X, 0, none⟩ = some (.slice p.a1 S.ino.length p.c1) ∧ w'.cell? ⟨X, 1, none⟩ = some (.slice p.a2 S.opn.length p.c2) ∧ w'.cell? ⟨X, 2, none⟩ = some (.slice p.a3 S.made.length p.c3) :=
 ⟨k.cell h.1 (by simp), k.cell h.2.1 (by simp), k.cell h.2.2.1 (by simp), k.cell h.2.2.2.1 (by simp), k.cell h.2.2.2.2.1 (by simp), k.cell h.2.2.2.2.2 (by simp)⟩
theorem rd_keptP {w w' : World} {X Y Z n1 b2 q : Nat} {ae : Option Addr} {ce : Nat} {t u : ByteArray} {z : Int} {p : Pl} {S : Sta} (h : w.cell? ⟨Z, 0, none⟩ = some (.string t) ∧ w.cell? ⟨Z, 1, none⟩ = some (.int .i64 z) ∧ w.cell? ⟨Y, 2, none⟩ = some (.slice ae n1 ce) ∧ w.cell? ⟨X, 0, none⟩ = some (.slice p.a1 S.ino.length p.c1) ∧ w.cell? ⟨X, 1, none⟩ = some (.slice p.a2 S.opn.length p.c2) ∧ w.cell? ⟨X, 2, none⟩ = some (.slice p.a3 S.made.length p.c3) ∧ w.cell? ⟨b2, q, none⟩ = some (.string u)) (k : Kept [] w w') :
  w'.cell? ⟨Z, 0, none⟩ = some (.string t) ∧ w'.cell? ⟨Z, 1, none⟩ = some (.int .i64 z) ∧ w'.cell? ⟨Y, 2, none⟩ = some (.slice ae n1 ce) ∧ w'.cell? ⟨X, 0, none⟩ = some (.slice p.a1 S.ino.length p.c1) ∧ w'.cell? ⟨X, 1, none⟩ = some (.slice p.a2 S.opn.length p.c2) ∧ w'.cell? ⟨X, 2, none⟩ = some (.slice p.a3 S.made.length p.c3) ∧ w'.cell? ⟨b2, q, none⟩ = some (.string u) :=
 ⟨k.cell h.1 (by simp), k.cell h.2.1 (by simp), k.cell h.2.2.1 (by simp), k.cell h.2.2.2.1 (by simp), k.cell h.2.2.2.2.1 (by simp), k.cell h.2.2.2.2.2.1 (by simp), k.cell h.2.2.2.2.2.2 (by simp)⟩
theorem r_entries {w : World} {p : Pl} {S : Sta} (h : Sv w p S) (num : Int) (dir : Bool) (data : ByteArray) (ae : Option Addr) (ce : Nat) (E : List En) (hE : EntA w ae E) (hl : E.length ≤ lim) (hok : EntsP S E) :
  Calls Tryz.prog 87 #[sval p S, .agg #[.int .i64 num, .bool dir, .slice ae E.length ce, .string data]] w fun e w' => e = .returned (.bool true) ∧ Kept [] w w' := by
 have HOK : Hid (_) := hok
 have HSV : Hid (Sv w p S ∧ EntA w ae E) := ⟨h, hE⟩
 unfold lim at hl
 clear hok
 have k1 : Kept [] w (w.alloc (sbox p S)) := (Kept.refl [] w).alloc _
 have k2 : Kept [] w ((w.alloc (sbox p S)).alloc (.cells #[.int .i64 num, .bool dir, .slice ae E.length ce, .string data] 62 (0, 0))) := k1.alloc _
 have s1 : (w.alloc (sbox p S)).heap.size = w.heap.size + 1 := by simp
 have s2 : ((w.alloc (sbox p S)).alloc (.cells #[.int .i64 num, .bool dir, .slice ae E.length ce, .string data] 62 (0, 0))).heap.size = w.heap.size + 1 + 1 := by simp
 have hm8 := make_words 8 (by omega)
 rw [rowF_zeros] at hm8
 obtain ⟨r8, hr8⟩ : ∃ r8, r8 = rowF 8 (fun _ => Value.int .i64 0) := ⟨_, rfl⟩
 rw [← hr8] at hm8
 have hm9 : ∀ V : World, (Instr.makeSlice 25 (.int .i64 8) (.int .i64 8)).run Tryz.prog V = .ok (.slice (some ⟨V.heap.size, 0, none⟩) 8 8) (V.alloc (.cells r8 3)) := hm8
 clear hm8
 have hek : Ek w (((w.alloc (sbox p S)).alloc (.cells #[.int .i64 num, .bool dir, .slice ae E.length ce, .string data] 62 (0, 0))).alloc (.cells r8 3 (0, 0))) w.heap.size (w.heap.size + 1) (w.heap.size + 1 + 1) p S #[.int .i64 num, .bool dir, .slice ae E.length ce, .string data] (mnV E 0) := by
  have g0 := Go.heap_alloc_new w (sbox p S)
  have g1 := Go.heap_alloc_new (w.alloc (sbox p S)) (.cells #[.int .i64 num, .bool dir, .slice ae E.length ce, .string data] 62 (0, 0))
  have g2 := Go.heap_alloc_new ((w.alloc (sbox p S)).alloc (.cells #[.int .i64 num, .bool dir, .slice ae E.length ce, .string data] 62 (0, 0))) (.cells r8 3 (0, 0))
  rw [s1] at g1
  rw [s2] at g2
  have kk1 : Kept [] (w.alloc (sbox p S)) (((w.alloc (sbox p S)).alloc (.cells #[.int .i64 num, .bool dir, .slice ae E.length ce, .string data] 62 (0, 0))).alloc (.cells r8 3 (0, 0))) := ((Kept.refl [] _).alloc _).alloc _
  have kk2 : Kept [] ((w.alloc (sbox p S)).alloc (.cells #[.int .i64 num, .bool dir, .slice ae E.length ce, .string data] 62 (0, 0))) (((w.alloc (sbox p S)).alloc (.cells #[.int .i64 num, .bool dir, .slice ae E.length ce, .string data] 62 (0, 0))).alloc (.cells r8 3 (0, 0))) := (Kept.refl [] _).alloc _
  refine ⟨k2.alloc _, (kk1.block _ (by omega) (by simp)).trans g0, (kk2.block _ (by omega) (by simp)).trans g1, ?_, by omega, by omega, by omega⟩
  rw [g2, hr8]
  rfl
 obtain ⟨W0, hW0⟩ : ∃ W0, W0 = ((w.alloc (sbox p S)).alloc (.cells #[.int .i64 num, .bool dir, .slice ae E.length ce, .string data] 62 (0, 0))).alloc (.cells r8 3 (0, 0)) := ⟨_, rfl⟩
 obtain ⟨X, hX⟩ : ∃ X, w.heap.size = X := ⟨_, rfl⟩
 obtain ⟨Y, hY⟩ : ∃ Y, X + 1 = Y := ⟨_, rfl⟩
 obtain ⟨M, hM⟩ : ∃ M, Y + 1 = M := ⟨_, rfl⟩
 rw [← hW0, hX, hY, hM] at hek
 have HW : Hid (_ ∧ _ ∧ _ ∧ _) := ⟨hW0.symm, hX, hY, hM⟩
 have HK : Hid (_) := hek
 clear hek hW0 hX hY hM k1 k2 s1 s2 hr8 h hE
 go_enter Tryz.func87, Tryz.ntmps87
 go_wp2_with fail
 rw [HW.out.1, HW.out.2.1, HW.out.2.2.1, HW.out.2.2.2]
 clear HW hm9
 go_loopw [6] (fun i wr => ∃ n : Nat, i = .int .i64 (n : Int) ∧ n ≤ E.length ∧ Hid (Ek w wr X Y M p S #[.int .i64 num, .bool dir, .slice ae E.length ce, .string data] (mnV E n) )) (fun i _ => (E.length - intOf i).toNat)
 case atStart => exact ⟨0, rfl, by omega, HK.out⟩
 case round =>
  clear HK
  obtain ⟨n, rfl, hn, HJ⟩ := hrel
  have y2 : wr.cell? ⟨Y, 2, none⟩ = some (.slice ae E.length ce) := (cellB HJ.out.hy).trans rfl
  by_cases hlt : n < E.length
  ·
   have i0 : (0 : Int) ≤ (n : Int) := by omega
   have i1 : (n : Int) < (E.length : Int) := by omega
   obtain ⟨b, o, ha, h0, h1⟩ := (HSV.out.2.kept HJ.out.k) n hlt
   obtain ⟨D, hD0⟩ : ∃ D, E[n] = D := ⟨_, rfl⟩
   have HD : Hid (E[n]? = some D) := by show _ = _; rw [List.getElem?_eq_getElem hlt, hD0]
   rw [hD0] at h0 h1
   have HA : Hid (_) := ha
   rw [ha] at y2
   clear hD0
   obtain ⟨t, z⟩ := D
   simp only at h0 h1
   have ka : Kept [] wr (wr.alloc (.cells #[.string t, .int .i64 z] 64 (0, 0))) := (Kept.refl [] wr).alloc _
   have HK1 : Hid (_) := HJ.out.kept ka
   have z0 := cell_new wr #[.string t, .int .i64 z] 64 0
   have z1 := cell_new wr #[.string t, .int .i64 z] 64 1
   obtain ⟨W1, hW1⟩ : ∃ W1, W1 = wr.alloc (.cells #[.string t, .int .i64 z] 64 (0, 0)) := ⟨_, rfl⟩
   obtain ⟨Z, hZ⟩ : ∃ Z, wr.heap.size = Z := ⟨_, rfl⟩
   rw [← hW1] at HK1 z0 z1
   rw [hZ] at z0 z1
   have HW1 : Hid (_ ∧ _) := ⟨hW1.symm, hZ⟩
   clear hW1 hZ HJ ka
   go_upto_region 6 with fail
   rw [HW1.out.1, HW1.out.2]
   clear HW1 y2 h0 h1 ha
   simp at z0 z1
   have HC0 : Hid (W1.cell? ⟨Z, 0, none⟩ = some (.string t) ∧ W1.cell? ⟨Z, 1, none⟩ = some (.int .i64 z) ∧ W1.cell? ⟨Y, 2, none⟩ = some (.slice ae E.length ce) ∧ W1.cell? ⟨X, 0, none⟩ = some (.slice p.a1 S.ino.length p.c1) ∧ W1.cell? ⟨X, 1, none⟩ = some (.slice p.a2 S.opn.length p.c2) ∧ W1.cell? ⟨X, 2, none⟩ = some (.slice p.a3 S.made.length p.c3)) := ⟨z0, z1, (cellB HK1.out.hy).trans rfl, (cellB HK1.out.hx).trans rfl, (cellB HK1.out.hx).trans rfl, (cellB HK1.out.hx).trans rfl⟩
   clear z0 z1
   have HKD : Hid (Kept [] w W1.drew) := HK1.out.k.trans (Kept.refl [] W1).drew (by simp)
   obtain ⟨ok1, ok2, ok3, ok4, ok5⟩ := HOK.out n _ HD.out
   have hck : Hid (chk t = 0) := ok1
   have hst : Hid (t.size ≤ 12) := (chk_size hck.out).1
   have HPV : Hid (∀ o : En, 0 < n → E[n - 1]? = some o → below o.1 t = true) := ok2
   have HCN : Hid (∀ b : Nat, bkt t = (b : Int) → mny (E.take (n + 1)) b ≤ 4) := ok5
   have hz' : (z == 1) = false := by simpa using ok3
   obtain ⟨mm, hmm⟩ := Option.ne_none_iff_exists'.1 ok4
   have hat : Hid (atR S.ino z = some mm) := hmm
   have m2 : ¬ (mm : Int) < 0 := by omega
   have m3 : decide ((mm : Int) < 0) = false := by simp
   clear ok1 ok2 ok3 ok4 ok5 hmm
   by_cases hn0 : n = 0
   ·
    have HN0 : Hid (n = 0) := hn0
    have i2 : ¬ (0 : Int) < (n : Int) := by omega
    have i3 : decide ((0 : Int) < (n : Int)) = false := by simp only [decide_eq_false_iff_not]; exact i2
    have i4 : decide (0 < n) = false := by simp only [decide_eq_false_iff_not]; omega
    have i5 : ¬ 0 < n := by omega
    clear hn0
    have HC : Hid (_) := rd_kept HC0.out (Kept.refl [] W1).drew
    clear HC0
    refine wp_region_held_drew (S := fun w' => w'.cell? ⟨Z, 0, none⟩ = some (.string t) ∧ w'.cell? ⟨Z, 1, none⟩ = some (.int .i64 z) ∧ w'.cell? ⟨Y, 2, none⟩ = some (.slice ae E.length ce) ∧ w'.cell? ⟨X, 0, none⟩ = some (.slice p.a1 S.ino.length p.c1) ∧ w'.cell? ⟨X, 1, none⟩ = some (.slice p.a2 S.opn.length p.c2) ∧ w'.cell? ⟨X, 2, none⟩ = some (.slice p.a3 S.made.length p.c3)) (by kernel_rfl) ?_ (fun hHeld => ?_)
    · exact HC.out
    refine tkA 0 rfl ?_
    refine tkA 1 rfl ?_
    refine wpAnyH_ready (rs := [2]) (by kernel_rfl) (by simp) ?_
    refine AllReadyH.cons rfl (fun K hK => ?_) AllReadyH.nil
    go_simp
    refine (rcheck_as t 0 hck.out _).mono ?_
    rintro e w4 ⟨rfl, rfl⟩
    go_wp2_with fail
    refine hK.out _ _ ?_ (fun hHeld => ?_)
    · exact HC.out
    clear hK K
    try simp only [Act.put, lz0, lz1, lz2, lz3, lz4, lz5]
    refine tkA 3 rfl ?_
    refine tkA 4 rfl ?_
    refine tkA 5 rfl ?_
    refine tkA 6 rfl ?_
    refine tkA 7 rfl ?_
    refine skA 8 rfl ?_
    refine skA 9 rfl ?_
    refine skA 10 rfl ?_
    refine skA 11 rfl ?_
    refine skA 12 rfl ?_
    refine skA 13 rfl ?_
    refine skA 14 rfl ?_
    refine skA 15 rfl ?_
    refine skA 16 rfl ?_
    refine skA 17 rfl ?_
    refine skA 18 rfl ?_
    refine tkA 19 rfl ?_
    refine tkA 20 rfl ?_
    refine tkA 21 rfl ?_
    refine tkA 22 rfl ?_
    refine tkA 23 rfl ?_
    refine tkA 24 rfl ?_
    refine tkA 25 rfl ?_
    refine tkA 26 rfl ?_
    refine tkA 27 rfl ?_
    refine tkA 28 rfl ?_
    refine tkA 29 rfl ?_
    refine wpAnyH_ready (rs := [30]) (by kernel_rfl) (by simp) ?_
    refine AllReadyH.cons rfl (fun K hK => ?_) AllReadyH.nil
    go_simp
    refine (rat_as (HSV.out.1.kept HKD.out) z _ hat.out).mono ?_
    rintro e w5 ⟨rfl, k5⟩
    have z5 := rd_kept HC.out k5
    have HK5 : Hid (_) := k5
    clear k5
    unfold ixI
    go_wp2_with fail
    refine hK.out _ _ ?_ (fun hHeld => ?_)
    · exact z5
    clear hK K
    try simp only [Act.put, lz0, lz1, lz2, lz3, lz4, lz5]
    refine tkA 31 rfl ?_
    refine tkA 32 rfl ?_
    refine wpAnyH_done (by kernel_rfl) ?_ _
    have hbr := bkt_range t
    obtain ⟨bb, hbb⟩ : ∃ bb : Nat, bkt t = (bb : Int) := ⟨(bkt t).toNat, by omega⟩
    have hb8 : bb < 8 := by omega
    have HBB : Hid (bkt t = (bb : Int)) := hbb
    have HK6 : Hid (_) := HK1.out.kept ((Kept.refl [] W1).drew.trans HK5.out (by simp))
    have tc : w5.cell? ⟨Z, 0, none⟩ = some (.string t) := z5.1
    clear hbr hbb z5  HC HK1 HKD HK5 
    go_wp2_with fail
    refine (rbucket_as t bb hst.out HBB.out _).mono ?_
    rintro e w6 ⟨rfl, hw6⟩
    have hw7 := hw6.symm
    subst hw7
    clear hw6 tc
    have mc : w5.cell? ⟨M, bb, none⟩ = some (mnV E n bb) := (cellB HK6.out.hm).trans (rowF_get _ hb8)
    have mf : w5.frozen? ⟨M, bb, none⟩ = false := frozen_of HK6.out.hm _
    have HK7 : Hid (_) := HK6.out.put bb (.int .i64 ((mny (E.take n) bb : Nat) + 1 : Int))
    rw [mnV_next HD.out HBB.out] at HK7
    have HMT : Hid (mny (E.take (n + 1)) bb = mny (E.take n) bb + 1) := by have := mny_take HD.out bb; rw [if_pos HBB.out] at this; exact this
    have hq := mny_le (E.take n) bb
    rw [List.length_take] at hq
    unfold mnV at mc
    obtain ⟨q, hqq⟩ : ∃ q, mny (E.take n) bb = q := ⟨_, rfl⟩
    rw [hqq] at mc HK7 HMT hq
    clear hqq HK6
    have j0 : (0 : Int) ≤ (bb : Int) := by omega
    have j1 : (bb : Int) < 8 := by omega
    have h4 : ¬ 4 < q + 1 := by have := HCN.out bb HBB.out; rw [HMT.out] at this; omega
    have h4' : ¬ (4 : Int) < (q : Int) + 1 := by omega
    have h6 : ¬ (3 : Int) < (q : Int) := by omega
    have h7 : ¬ 3 < q := by omega
    have h8 : decide ((4 : Int) < (q : Int) + 1) = false := by simp only [decide_eq_false_iff_not]; exact h4'
    go_wp2_with fail
    go_roundw
    case rel => exact ⟨n + 1, by go_num, by omega, HK7.out⟩
    case measure => simp [intOf]; omega
   ·
    have hpos : (0 : Int) < (n : Int) := by omega
    have i3 : decide ((0 : Int) < (n : Int)) = true := by simp only [decide_eq_true_eq]; exact hpos
    have i4 : decide (0 < n) = true := by simp only [decide_eq_true_eq]; omega
    have i5 : 0 < n := by omega
    have v0 : (0 : Int) ≤ (n : Int) - 1 := by omega
    have v1 : (n : Int) - 1 < (E.length : Int) := by omega
    have v3 : (1 : Int) ≤ (n : Int) := by omega
    have v2 : IntKind.i64.wrap ((n : Int) - 1) = (n : Int) - 1 := by rw [IntKind.wrap_i64]; omega
    have hlt1 : n - 1 < E.length := by omega
    obtain ⟨b2, o2, ha2, u0, -⟩ := (HSV.out.2.kept HKD.out) (n - 1) hlt1
    obtain ⟨O, hO0⟩ : ∃ O, E[n - 1] = O := ⟨_, rfl⟩
    have HO : Hid (E[n - 1]? = some O) := by show _ = _; rw [List.getElem?_eq_getElem hlt1, hO0]
    rw [hO0] at u0
    obtain ⟨u, uz⟩ := O
    simp only at u0
    subst ha2
    have hsu : Hid (u.size ≤ 12) := (chk_size (HOK.out (n - 1) _ HO.out).1).1
    have HC1 : Hid (_) := rd_kept HC0.out (Kept.refl [] W1).drew
    have HC : Hid (_ ∧ _ ∧ _ ∧ _ ∧ _ ∧ _ ∧ _) := ⟨HC1.out.1, HC1.out.2.1, HC1.out.2.2.1, HC1.out.2.2.2.1, HC1.out.2.2.2.2.1, HC1.out.2.2.2.2.2, u0⟩
    clear HC0 HC1 hO0 hlt1 u0 HA
    have hbl : Hid (below u t = true) := HPV.out _ (by omega) HO.out
    refine wp_region_held_drew (S := fun w' => w'.cell? ⟨Z, 0, none⟩ = some (.string t) ∧ w'.cell? ⟨Z, 1, none⟩ = some (.int .i64 z) ∧ w'.cell? ⟨Y, 2, none⟩ = some (.slice (some ⟨b2, o2, none⟩) E.length ce) ∧ w'.cell? ⟨X, 0, none⟩ = some (.slice p.a1 S.ino.length p.c1) ∧ w'.cell? ⟨X, 1, none⟩ = some (.slice p.a2 S.opn.length p.c2) ∧ w'.cell? ⟨X, 2, none⟩ = some (.slice p.a3 S.made.length p.c3) ∧ w'.cell? ⟨b2, o2 + (n - 1) * 2, none⟩ = some (.string u)) (by kernel_rfl) ?_ (fun hHeld => ?_)
    · exact HC.out
    refine tkA 0 rfl ?_
    refine tkA 1 rfl ?_
    refine wpAnyH_ready (rs := [2]) (by kernel_rfl) (by simp) ?_
    refine AllReadyH.cons rfl (fun K hK => ?_) AllReadyH.nil
    go_simp
    refine (rcheck_as t 0 hck.out _).mono ?_
    rintro e w4 ⟨rfl, rfl⟩
    go_wp2_with fail
    refine hK.out _ _ ?_ (fun hHeld => ?_)
    · exact HC.out
    clear hK K
    try simp only [Act.put, lz0, lz1, lz2, lz3, lz4, lz5]
    refine tkA 3 rfl ?_
    refine tkA 4 rfl ?_
    refine tkA 5 rfl ?_
    refine tkA 6 rfl ?_
    refine tkA 7 rfl ?_
    refine tkA 8 rfl ?_
    refine tkA 9 rfl ?_
    refine tkA 10 rfl ?_
    refine tkA 11 rfl ?_
    refine tkA 12 rfl ?_
    refine tkA 13 rfl ?_
    refine tkA 14 rfl ?_
    refine tkA 15 rfl ?_
    refine tkA 16 rfl ?_
    refine wpAnyH_ready (rs := [17]) (by kernel_rfl) (by simp) ?_
    refine AllReadyH.cons rfl (fun K hK => ?_) AllReadyH.nil
    go_simp
    refine (rbelow_as hsu.out hst.out hbl.out _).mono ?_
    rintro e w4 ⟨rfl, k4⟩
    have z4 := rd_keptP HC.out k4
    have HK4 : Hid (_) := k4
    clear k4
    go_wp2_with fail
    refine hK.out _ _ ?_ (fun hHeld => ?_)
    · exact z4
    clear hK K
    try simp only [Act.put, lz0, lz1, lz2, lz3, lz4, lz5]
    refine tkA 18 rfl ?_
    refine tkA 19 rfl ?_
    refine tkA 20 rfl ?_
    refine tkA 21 rfl ?_
    refine tkA 22 rfl ?_
    refine tkA 23 rfl ?_
    refine tkA 24 rfl ?_
    refine tkA 25 rfl ?_
    refine tkA 26 rfl ?_
    refine tkA 27 rfl ?_
    refine tkA 28 rfl ?_
    refine tkA 29 rfl ?_
    refine wpAnyH_ready (rs := [30]) (by kernel_rfl) (by simp) ?_
    refine AllReadyH.cons rfl (fun K hK => ?_) AllReadyH.nil
    go_simp
    refine (rat_as (HSV.out.1.kept (HKD.out.trans HK4.out (by simp))) z _ hat.out).mono ?_
    rintro e w5 ⟨rfl, k5⟩
    have z5 := rd_keptP HC.out (HK4.out.trans k5 (by simp))
    have HK5 : Hid (_) := (HK4.out.trans k5 (by simp))
    clear k5
    unfold ixI
    go_wp2_with fail
    refine hK.out _ _ ?_ (fun hHeld => ?_)
    · exact z5
    clear hK K
    try simp only [Act.put, lz0, lz1, lz2, lz3, lz4, lz5]
    refine tkA 31 rfl ?_
    refine tkA 32 rfl ?_
    refine wpAnyH_done (by kernel_rfl) ?_ _
    have hbr := bkt_range t
    obtain ⟨bb, hbb⟩ : ∃ bb : Nat, bkt t = (bb : Int) := ⟨(bkt t).toNat, by omega⟩
    have hb8 : bb < 8 := by omega
    have HBB : Hid (bkt t = (bb : Int)) := hbb
    have HK6 : Hid (_) := HK1.out.kept ((Kept.refl [] W1).drew.trans HK5.out (by simp))
    have tc : w5.cell? ⟨Z, 0, none⟩ = some (.string t) := z5.1
    clear hbr hbb z5 z4 HC HK1 HKD HK5 HK4
    go_wp2_with fail
    refine (rbucket_as t bb hst.out HBB.out _).mono ?_
    rintro e w6 ⟨rfl, hw6⟩
    have hw7 := hw6.symm
    subst hw7
    clear hw6 tc
    have mc : w5.cell? ⟨M, bb, none⟩ = some (mnV E n bb) := (cellB HK6.out.hm).trans (rowF_get _ hb8)
    have mf : w5.frozen? ⟨M, bb, none⟩ = false := frozen_of HK6.out.hm _
    have HK7 : Hid (_) := HK6.out.put bb (.int .i64 ((mny (E.take n) bb : Nat) + 1 : Int))
    rw [mnV_next HD.out HBB.out] at HK7
    have HMT : Hid (mny (E.take (n + 1)) bb = mny (E.take n) bb + 1) := by have := mny_take HD.out bb; rw [if_pos HBB.out] at this; exact this
    have hq := mny_le (E.take n) bb
    rw [List.length_take] at hq
    unfold mnV at mc
    obtain ⟨q, hqq⟩ : ∃ q, mny (E.take n) bb = q := ⟨_, rfl⟩
    rw [hqq] at mc HK7 HMT hq
    clear hqq HK6
    have j0 : (0 : Int) ≤ (bb : Int) := by omega
    have j1 : (bb : Int) < 8 := by omega
    have h4 : ¬ 4 < q + 1 := by have := HCN.out bb HBB.out; rw [HMT.out] at this; omega
    have h4' : ¬ (4 : Int) < (q : Int) + 1 := by omega
    have h6 : ¬ (3 : Int) < (q : Int) := by omega
    have h7 : ¬ 3 < q := by omega
    have h8 : decide ((4 : Int) < (q : Int) + 1) = false := by simp only [decide_eq_false_iff_not]; exact h4'
    go_wp2_with fail
    go_roundw
    case rel => exact ⟨n + 1, by go_num, by omega, HK7.out⟩
    case measure => simp [intOf]; omega
  ·
   have i1 : ¬ (n : Int) < (E.length : Int) := by omega
   go_wp2_with fail
   go_ret
   exact ⟨rfl, HJ.out.k⟩
end Go.Proofs.YtffncojcnbhblaaGreatDoor
