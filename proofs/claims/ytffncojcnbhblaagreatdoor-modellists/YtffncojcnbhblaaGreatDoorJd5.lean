/-
  Joined of my texts Sd Ra Rb.
-/
import Derived.Test.YtffncojcnbhblaaGreatDoorJd4
import Derived.BigQuiet
import Derived.Deep.CutRange
import Derived.Deep.CutBlock
set_option linter.unusedVariables false
set_option linter.unusedSimpArgs false
set_option maxRecDepth 100000
set_option maxHeartbeats 8000000
namespace Go.Proofs.YtffncojcnbhblaaGreatDoor
open Go.RowKit
abbrev Ds := Int × Int × Int
structure Ino where
 num : Int
 dir : Bool
 ents : List En
 data : ByteArray
structure Sta where
 ino : List Ino
 opn : List Ds
 made : List Int
def EntA (w : World) (a : Option Addr) (E : List En) : Prop :=
 ∀ i (hi : i < E.length), ∃ b o, a = some ⟨b, o, none⟩ ∧ w.cell? ⟨b, o + i * 2, none⟩ = some (.string (E[i]).1) ∧ w.cell? ⟨b, o + i * 2 + 1, none⟩ = some (.int .i64 (E[i]).2)
def InoA (w : World) (a : Option Addr) (L : List Ino) : Prop :=
 ∀ i (hi : i < L.length), ∃ b o ae ce, a = some ⟨b, o, none⟩ ∧ w.cell? ⟨b, o + i * 4, none⟩ = some (.int .i64 (L[i]).num) ∧ w.cell? ⟨b, o + i * 4 + 1, none⟩ = some (.bool (L[i]).dir) ∧
  w.cell? ⟨b, o + i * 4 + 2, none⟩ = some (.slice ae (L[i]).ents.length ce) ∧ w.cell? ⟨b, o + i * 4 + 3, none⟩ = some (.string (L[i]).data) ∧ EntA w ae (L[i]).ents ∧ (L[i]).ents.length ≤ ce ∧ True
def DesA (w : World) (a : Option Addr) (D : List Ds) : Prop :=
 ∀ i (hi : i < D.length), ∃ b o, a = some ⟨b, o, none⟩ ∧ w.cell? ⟨b, o + i * 3, none⟩ = some (.int .i64 (D[i]).1) ∧ w.cell? ⟨b, o + i * 3 + 1, none⟩ = some (.int .i64 (D[i]).2.1) ∧ w.cell? ⟨b, o + i * 3 + 2, none⟩ = some (.int .i64 (D[i]).2.2)
def IntA (w : World) (a : Option Addr) (M : List Int) : Prop :=
 ∀ i (hi : i < M.length), ∃ b o, a = some ⟨b, o, none⟩ ∧ w.cell? ⟨b, o + i, none⟩ = some (.int .i64 M[i])
def lim : Nat := 140737488355328
structure Pl where
 a1 : Option Addr
 c1 : Nat
 a2 : Option Addr
 c2 : Nat
 a3 : Option Addr
 c3 : Nat
@[reducible] def sval (p : Pl) (S : Sta) : Value := .agg #[.slice p.a1 S.ino.length p.c1, .slice p.a2 S.opn.length p.c2, .slice p.a3 S.made.length p.c3]
structure Sv (w : World) (p : Pl) (S : Sta) : Prop where
 ino : InoA w p.a1 S.ino
 des : DesA w p.a2 S.opn
 mad : IntA w p.a3 S.made
 n1 : S.ino.length ≤ lim
 n2 : S.opn.length ≤ lim
 n3 : S.made.length ≤ lim
 n4 : ∀ x ∈ S.ino, x.ents.length ≤ lim
 w1 : ∀ x ∈ S.ino, x.num ≤ 9223372036854775807
 k1 : S.ino.length ≤ p.c1
 k2 : S.opn.length ≤ p.c2
 k3 : S.made.length ≤ p.c3
 f2 : True
 f3 : True
theorem EntA.kept {w w' : World} {a : Option Addr} {E : List En} (h : EntA w a E) (k : Kept [] w w') : EntA w' a E := fun i hi => by
 obtain ⟨b, o, e, h1, h2⟩ := h i hi
 exact ⟨b, o, e, k.cell h1 (by simp), k.cell h2 (by simp)⟩
theorem InoA.kept {w w' : World} {a : Option Addr} {L : List Ino} (h : InoA w a L) (k : Kept [] w w') : InoA w' a L := fun i hi => by
 obtain ⟨b, o, ae, ce, e, h1, h2, h3, h4, h5, h6⟩ := h i hi
 exact ⟨b, o, ae, ce, e, k.cell h1 (by simp), k.cell h2 (by simp), k.cell h3 (by simp), k.cell h4 (by simp), h5.kept k, h6⟩
theorem DesA.kept {w w' : World} {a : Option Addr} {D : List Ds} (h : DesA w a D) (k : Kept [] w w') : DesA w' a D := fun i hi => by
 obtain ⟨b, o, e, h1, h2, h3⟩ := h i hi
 exact ⟨b, o, e, k.cell h1 (by simp), k.cell h2 (by simp), k.cell h3 (by simp)⟩
theorem IntA.kept {w w' : World} {a : Option Addr} {M : List Int} (h : IntA w a M) (k : Kept [] w w') : IntA w' a M := fun i hi => by
 obtain ⟨b, o, e, h1⟩ := h i hi
 exact ⟨b, o, e, k.cell h1 (by simp)⟩
theorem Sv.kept {w w' : World} {p : Pl} {S : Sta} (h : Sv w p S) (k : Kept [] w w') : Sv w' p S :=
 ⟨h.ino.kept k, h.des.kept k, h.mad.kept k, h.n1, h.n2, h.n3, h.n4, h.w1, h.k1, h.k2, h.k3, h.f2, h.f3⟩
@[reducible] def sbox (p : Pl) (S : Sta) : Obj := .cells #[.slice p.a1 S.ino.length p.c1, .slice p.a2 S.opn.length p.c2, .slice p.a3 S.made.length p.c3] 27 (0, 0)
structure Bx (w0 w : World) (X : Nat) (p : Pl) (S : Sta) : Prop where
 sv : Sv w p S
 k : Kept [] w0 w
 x0 : w.cell? ⟨X, 0, none⟩ = some (.slice p.a1 S.ino.length p.c1)
 x1 : w.cell? ⟨X, 1, none⟩ = some (.slice p.a2 S.opn.length p.c2)
 x2 : w.cell? ⟨X, 2, none⟩ = some (.slice p.a3 S.made.length p.c3)
theorem cellB {w : World} {B i : Nat} {cs : Array Value} {t : TypeId} {z : Nat × Nat} (h : w.heap[B]? = some (.cells cs t z)) : w.cell? ⟨B, i, none⟩ = cs[i]? := by
 simp [World.cell?, h]
theorem cell_new (w : World) (cs : Array Value) (t : TypeId) (i : Nat) : (w.alloc (.cells cs t (0, 0))).cell? ⟨w.heap.size, i, none⟩ = cs[i]? :=
 cellB (Go.heap_alloc_new w (.cells cs t (0, 0)))
theorem Sv.boxed {w : World} {p : Pl} {S : Sta} (h : Sv w p S) : Bx w (w.alloc (sbox p S)) w.heap.size p S :=
 ⟨h.kept ((Kept.refl [] w).alloc _), (Kept.refl [] w).alloc _, cell_new _ _ _ _, cell_new _ _ _ _, cell_new _ _ _ _⟩
theorem Bx.kept {w0 w w' : World} {X : Nat} {p : Pl} {S : Sta} (h : Bx w0 w X p S) (k : Kept [] w w') : Bx w0 w' X p S :=
 ⟨h.sv.kept k, h.k.trans k (by simp), k.cell h.x0 (by simp), k.cell h.x1 (by simp), k.cell h.x2 (by simp)⟩
def atR (L : List Ino) (num : Int) : Option Nat := L.findIdx? fun x => x.num == num
def ixI : Option Nat → Int
 | none => -1
 | some i => (i : Int)
theorem at_some {L : List Ino} {num : Int} {n : Nat} (hn : n < L.length) (h : (L[n]).num = num) (hj : ∀ j (hj : j < L.length), j < n → (L[j]).num ≠ num) : atR L num = some n := by
 unfold atR
 rw [List.findIdx?_eq_some_iff_getElem]
 exact ⟨hn, by simpa using h, fun j hjn => by simpa using hj j (by omega) hjn⟩
theorem at_none {L : List Ino} {num : Int} (h : ∀ j (hj : j < L.length), (L[j]).num ≠ num) : atR L num = none := by
 unfold atR
 rw [List.findIdx?_eq_none_iff]
 intro x hx
 obtain ⟨j, hj, rfl⟩ := List.getElem_of_mem hx
 simpa using h j hj
theorem at_get {L : List Ino} {num : Int} {n : Nat} (h : atR L num = some n) : ∃ hn : n < L.length, (L[n]).num = num := by
 unfold atR at h
 rw [List.findIdx?_eq_some_iff_getElem] at h
 obtain ⟨hn, h1, -⟩ := h
 exact ⟨hn, by simpa using h1⟩
def entR (E : List En) (s : ByteArray) : Int := match E.find? (fun e => e.1.toList == s.toList) with
 | none => 0
 | some e => e.2
def entryR (L : List Ino) (d : Int) (s : ByteArray) : Int := match atR L d with
 | none => 0
 | some k => entR ((L[k]?.map Ino.ents).getD []) s
theorem ent_some {E : List En} {s : ByteArray} {n : Nat} (hn : n < E.length) (h : ((E[n]).1.toList == s.toList) = true) (hj : ∀ j (hj : j < E.length), j < n → ((E[j]).1.toList == s.toList) = false) : entR E s = (E[n]).2 := by
 unfold entR
 have : E.find? (fun e => e.1.toList == s.toList) = some E[n] := by
  rw [List.find?_eq_some_iff_getElem]
  exact ⟨h, n, hn, rfl, fun j hjn => by simp [hj j (by omega) hjn]⟩
 rw [this]
theorem ent_none {E : List En} {s : ByteArray} (h : ∀ j (hj : j < E.length), ((E[j]).1.toList == s.toList) = false) : entR E s = 0 := by
 unfold entR
 have : E.find? (fun e => e.1.toList == s.toList) = none := by
  rw [List.find?_eq_none]
  intro x hx
  obtain ⟨j, hj, rfl⟩ := List.getElem_of_mem hx
  simp [h j hj]
 rw [this]
def cnt (E : List En) (num : Int) : Nat := E.countP fun e => e.2 == num
def linksR (L : List Ino) (num : Int) : Nat := (L.map fun x => if x.dir then cnt x.ents num else 0).sum
theorem cnt_take {E : List En} {num : Int} {n : Nat} (h : n < E.length) : cnt (E.take (n + 1)) num = cnt (E.take n) num + if (E[n]).2 = num then 1 else 0 := by
 unfold cnt
 rw [List.take_succ_eq_append_getElem h, List.countP_append]
 congr 1
 by_cases e : (E[n]).2 = num
 · simp [e]
 · simp [e]
theorem cnt_le (E : List En) (num : Int) : cnt E num ≤ E.length := List.countP_le_length
theorem links_take {L : List Ino} {num : Int} {n : Nat} (h : n < L.length) : linksR (L.take (n + 1)) num = linksR (L.take n) num + if (L[n]).dir then cnt (L[n]).ents num else 0 := by
 unfold linksR
 rw [List.take_succ_eq_append_getElem h, List.map_append, List.sum_append]
 simp
theorem links_le {L : List Ino} {num : Int} (hl : ∀ x ∈ L, x.ents.length ≤ lim) : linksR L num ≤ L.length * lim := by
 unfold linksR
 induction L with
 | nil => simp
 | cons x L ih =>
  have h1 := ih fun y hy => hl y (List.mem_cons_of_mem _ hy)
  have h2 := hl x (List.mem_cons_self ..)
  have h3 := cnt_le x.ents num
  simp only [List.map_cons, List.sum_cons, List.length_cons]
  have h4 : (if x.dir then cnt x.ents num else 0) ≤ lim := by split <;> omega
  rw [Nat.add_mul]
  omega
theorem links_big {L : List Ino} {num : Int} (hs : L.length ≤ 60000) (hl : ∀ x ∈ L, x.ents.length ≤ lim) : linksR L num ≤ 8444249301319680000 := by
 have e : 60000 * lim = 8444249301319680000 := by simp [lim]
 rw [← e]
 exact Nat.le_trans (links_le hl) (Nat.mul_le_mul_right lim hs)
def fdR (D : List Ds) (c f : Int) : Int := match D.find? (fun d => d.1 == c && d.2.1 == f) with
 | none => 0
 | some d => d.2.2
theorem fd_some {D : List Ds} {c f : Int} {n : Nat} (hn : n < D.length) (h : (D[n]).1 = c ∧ (D[n]).2.1 = f) (hj : ∀ j (hj : j < D.length), j < n → ¬ ((D[j]).1 = c ∧ (D[j]).2.1 = f)) : fdR D c f = (D[n]).2.2 := by
 unfold fdR
 have : D.find? (fun d => d.1 == c && d.2.1 == f) = some D[n] := by
  rw [List.find?_eq_some_iff_getElem]
  exact ⟨by simp [h.1, h.2], n, hn, rfl, fun j hjn => by
   have := hj j (by omega) hjn
   simp only [Bool.not_eq_true', Bool.and_eq_false_iff, beq_eq_false_iff_ne]
   by_cases e : (D[j]).1 = c
   · exact Or.inr fun e2 => this ⟨e, e2⟩
   · exact Or.inl e⟩
 rw [this]
theorem fd_none {D : List Ds} {c f : Int} (h : ∀ j (hj : j < D.length), ¬ ((D[j]).1 = c ∧ (D[j]).2.1 = f)) : fdR D c f = 0 := by
 unfold fdR
 have : D.find? (fun d => d.1 == c && d.2.1 == f) = none := by
  rw [List.find?_eq_none]
  intro x hx
  obtain ⟨j, hj, rfl⟩ := List.getElem_of_mem hx
  have := h j hj
  simpa using this
 rw [this]
theorem makeF (fn : Fn) (first cap : Array Value) (w : World) : (Instr.makeFunc fn first cap).run Tryz.prog w = .ok (.func fn first cap) w := rfl
theorem k_inode {w : World} (z num : Int) (d : Bool) (v : Value) (s : ByteArray) (hv : ∃ a n c, v = .slice a n c) (X : Nat) (hX : w.cell? ⟨X, 0, none⟩ = some (.int .i64 num)) :
  Calls Tryz.prog 73 #[.agg #[.int .i64 z, .bool d, v, .string s], .pointer (some ⟨X, 0, none⟩)] w fun e w' => e = .returned (.bool (z == num)) ∧ Kept [] w w' := by
 obtain ⟨a, n, c, rfl⟩ := hv
 obtain ⟨W0, hW0⟩ : ∃ W0, W0 = w.alloc (.cells #[.int .i64 z, .bool d, .slice a n c, .string s] 62 (0, 0)) := ⟨_, rfl⟩
 have k0 : Hid (Kept [] w W0) := by rw [hW0]; exact (Kept.refl [] w).alloc _
 have c0 : W0.cell? ⟨w.heap.size, 0, none⟩ = some (.int .i64 z) := by rw [hW0]; exact cell_new _ _ _ _
 have c1 : W0.cell? ⟨X, 0, none⟩ = some (.int .i64 num) := k0.out.cell hX (by simp)
 have HW : Hid (_) := hW0.symm
 clear hW0
 go_enter Tryz.func73, Tryz.ntmps73
 go_upto_region 1 with fail
 rw [HW.out]
 clear HW
 go_wp2_with fail
 go_ret
 exact ⟨rfl, k0.out⟩
theorem k_place {w : World} (t s : ByteArray) (z : Int) (X : Nat) (hX : w.cell? ⟨X, 0, none⟩ = some (.string s)) :
  Calls Tryz.prog 75 #[.agg #[.string t, .int .i64 z], .pointer (some ⟨X, 0, none⟩)] w fun e w' => e = .returned (.bool (t.toList == s.toList)) ∧ Kept [] w w' := by
 obtain ⟨W0, hW0⟩ : ∃ W0, W0 = w.alloc (.cells #[.string t, .int .i64 z] 64 (0, 0)) := ⟨_, rfl⟩
 have k0 : Hid (Kept [] w W0) := by rw [hW0]; exact (Kept.refl [] w).alloc _
 have c0 : W0.cell? ⟨w.heap.size, 0, none⟩ = some (.string t) := by rw [hW0]; exact cell_new _ _ _ _
 have c1 : W0.cell? ⟨X, 0, none⟩ = some (.string s) := k0.out.cell hX (by simp)
 have HW : Hid (_) := hW0.symm
 clear hW0
 go_enter Tryz.func75, Tryz.ntmps75
 go_upto_region 1 with fail
 rw [HW.out]
 clear HW
 by_cases he : t.toList = s.toList
 ·
  have HE : Hid ((t.toList == s.toList) = true) := by show _ = _; simpa using he
  go_wp2_with fail
  go_ret
  exact ⟨ret_bool HE.out.symm, k0.out⟩
 ·
  go_wp2_with fail
  go_ret
  exact ⟨rfl, k0.out⟩
theorem k_isopen {w : World} (c f z num : Int) (X : Nat) (hX : w.cell? ⟨X, 0, none⟩ = some (.int .i64 num)) :
  Calls Tryz.prog 83 #[.agg #[.int .i64 c, .int .i64 f, .int .i64 z], .pointer (some ⟨X, 0, none⟩)] w fun e w' => e = .returned (.bool (z == num)) ∧ Kept [] w w' := by
 obtain ⟨W0, hW0⟩ : ∃ W0, W0 = w.alloc (.cells #[.int .i64 c, .int .i64 f, .int .i64 z] 83 (0, 0)) := ⟨_, rfl⟩
 have k0 : Hid (Kept [] w W0) := by rw [hW0]; exact (Kept.refl [] w).alloc _
 have c0 : W0.cell? ⟨w.heap.size, 2, none⟩ = some (.int .i64 z) := by rw [hW0]; exact cell_new _ _ _ _
 have c1 : W0.cell? ⟨X, 0, none⟩ = some (.int .i64 num) := k0.out.cell hX (by simp)
 have HW : Hid (_) := hW0.symm
 clear hW0
 go_enter Tryz.func83, Tryz.ntmps83
 go_upto_region 1 with fail
 rw [HW.out]
 clear HW
 go_wp2_with fail
 go_ret
 exact ⟨rfl, k0.out⟩
theorem ix_inode {w : World} {a : Option Addr} {L : List Ino} (hL : InoA w a L) (hn : L.length ≤ lim) (c : Nat) (num : Int) (X : Nat) (hX : w.cell? ⟨X, 0, none⟩ = some (.int .i64 num)) :
  Calls Tryz.prog 72 #[.slice a L.length c, .func (.func 73) #[] #[.pointer (some ⟨X, 0, none⟩)]] w fun e w' => e = .returned (.int .i64 (ixI (atR L num))) ∧ Kept [] w w' := by
 have HL : Hid (InoA w a L) := hL
 have HX : Hid (_) := hX
 unfold lim at hn
 clear hL hX
 go_enter Tryz.func72, Tryz.ntmps72
 go_wp2_with fail
 go_loopw [8] (fun i wr => ∃ n : Nat, i = .int .i64 (n : Int) ∧ n ≤ L.length ∧ Hid (Kept [] w wr ∧ ∀ j (hj : j < L.length), j < n → (L[j]).num ≠ num)) (fun i _ => (L.length - intOf i).toNat)
 case atStart => exact ⟨0, rfl, by omega, Kept.refl _ _, fun j _ hj => by omega⟩
 case round =>
  obtain ⟨n, rfl, hn, HJ⟩ := hrel
  by_cases hlt : n < L.length
  ·
   have i0 : (0 : Int) ≤ (n : Int) := by omega
   have i1 : (n : Int) < (L.length : Int) := by omega
   obtain ⟨b, o, ae, ce, ha, h1, h2, h3, h4, -⟩ := (HL.out.kept HJ.out.1) n hlt
   subst ha
   have HX2 : Hid (wr.cell? ⟨X, 0, none⟩ = some (.int .i64 num)) := HJ.out.1.cell HX.out (by simp)
   obtain ⟨z, hz⟩ : ∃ z, (L[n]).num = z := ⟨_, rfl⟩
   obtain ⟨dd, hdd⟩ : ∃ dd, (L[n]).dir = dd := ⟨_, rfl⟩
   obtain ⟨el, hel⟩ : ∃ el, (L[n]).ents.length = el := ⟨_, rfl⟩
   obtain ⟨da, hda⟩ : ∃ da, (L[n]).data = da := ⟨_, rfl⟩
   have HZ : Hid (_) := hz
   rw [hz] at h1
   rw [hdd] at h2
   rw [hel] at h3
   rw [hda] at h4
   clear hz hdd hel hda
   go_wp2_with fail
   refine (k_inode z num dd _ da ⟨_, _, _, rfl⟩ X HX2.out).mono ?_
   rintro e w1 ⟨rfl, k1⟩
   have HK : Hid (Kept [] w w1) := HJ.out.1.trans k1 (by simp)
   clear k1
   by_cases he : z = num
   ·
    have HE : Hid (atR L num = some n) := at_some hlt (HZ.out.trans he) HJ.out.2
    subst he
    clear HJ
    have ht : (z == z) = true := by simp
    rw [ht]
    go_wp2_with fail
    go_ret
    exact ⟨ret_int (by rw [HE.out]; rfl), HK.out⟩
   ·
    have HE : Hid (Kept [] w w1 ∧ ∀ j (hj : j < L.length), j < n + 1 → (L[j]).num ≠ num) := ⟨HK.out, fun j hj hjn => by
     by_cases e : j = n
     · subst e; rw [HZ.out]; exact he
     · exact HJ.out.2 j hj (by omega)⟩
    have e1 : (z == num) = false := by simpa using he
    rw [e1]
    clear HJ HK
    go_wp2_with fail
    go_roundw
    case rel => exact ⟨n + 1, by go_num, by omega, HE.out⟩
    case measure => simp [intOf]; omega
  ·
   have i1 : ¬ (n : Int) < (L.length : Int) := by omega
   have HE : Hid (atR L num = none) := at_none fun j hj => HJ.out.2 j hj (by omega)
   go_wp2_with fail
   go_ret
   exact ⟨ret_int (by rw [HE.out]; rfl), HJ.out.1⟩
theorem p_inode_none {w : World} {p : Pl} {S : Sta} (h : Sv w p S) (num : Int) (hr : atR S.ino num = none) :
  Calls Tryz.prog 48 #[sval p S, .int .i64 num] w fun e w' => e = .returned (.pointer none) ∧ Kept [] w w' := by
 have hb := h.boxed
 obtain ⟨W0, hW0⟩ : ∃ W0, W0 = w.alloc (sbox p S) := ⟨_, rfl⟩
 obtain ⟨X, hX⟩ : ∃ X, w.heap.size = X := ⟨_, rfl⟩
 rw [← hW0, hX] at hb
 obtain ⟨W1, hW1⟩ : ∃ W1, W1 = W0.alloc (.cells #[.int .i64 num] 3 (0, 0)) := ⟨_, rfl⟩
 have hb1 : Bx w W1 X p S := hb.kept (by rw [hW1]; exact (Kept.refl [] W0).alloc _)
 have hs0 : W0.heap.size = X + 1 := by rw [hW0, ← hX]; simp
 have c1 : W1.cell? ⟨X + 1, 0, none⟩ = some (.int .i64 num) := by rw [hW1, ← hs0]; exact cell_new _ _ _ _
 have HW : Hid (W0.alloc (.cells #[.int .i64 num] 3 (0, 0)) = W1 ∧ w.alloc (sbox p S) = W0 ∧ w.heap.size = X ∧ W0.heap.size = X + 1) := ⟨hW1.symm, hW0.symm, hX, hs0⟩
 have HB : Hid (_) := hb1
 have HC : Hid (_) := c1
 have hn1 : Hid (S.ino.length ≤ lim) := h.n1
 have q0 := hb1.x0
 have HR : Hid (_) := hr
 clear hW0 hX hb h hW1 hb1 hs0 c1 hr
 go_enter Tryz.func48, Tryz.ntmps48
 go_upto_region 1 with fail
 rw [HW.out.2.1, HW.out.1, HW.out.2.2.1]
 clear HW
 have hmf := makeF
 go_wp2_with fail
 refine (ix_inode HB.out.sv.ino hn1.out _ num _ HC.out).mono ?_
 rintro e w1 ⟨rfl, k1⟩
 have HK : Hid (Kept [] w w1) := HB.out.k.trans k1 (by simp)
 have q1 := k1.cell q0 (by simp)
 rw [HR.out]
 clear k1 q0
 unfold ixI
 go_wp2_with fail
 go_ret
 exact ⟨rfl, HK.out⟩
theorem p_inode_some {w : World} {p : Pl} {S : Sta} (h : Sv w p S) (num : Int) {i : Nat} (hr : atR S.ino num = some i) {b o : Nat} (ha : p.a1 = some ⟨b, o, none⟩) :
  Calls Tryz.prog 48 #[sval p S, .int .i64 num] w fun e w' => e = .returned (.pointer (some ⟨b, o + i * 4, none⟩)) ∧ Kept [] w w' := by
 have hb := h.boxed
 obtain ⟨W0, hW0⟩ : ∃ W0, W0 = w.alloc (sbox p S) := ⟨_, rfl⟩
 obtain ⟨X, hX⟩ : ∃ X, w.heap.size = X := ⟨_, rfl⟩
 rw [← hW0, hX] at hb
 obtain ⟨W1, hW1⟩ : ∃ W1, W1 = W0.alloc (.cells #[.int .i64 num] 3 (0, 0)) := ⟨_, rfl⟩
 have hb1 : Bx w W1 X p S := hb.kept (by rw [hW1]; exact (Kept.refl [] W0).alloc _)
 have hs0 : W0.heap.size = X + 1 := by rw [hW0, ← hX]; simp
 have c1 : W1.cell? ⟨X + 1, 0, none⟩ = some (.int .i64 num) := by rw [hW1, ← hs0]; exact cell_new _ _ _ _
 have HW : Hid (W0.alloc (.cells #[.int .i64 num] 3 (0, 0)) = W1 ∧ w.alloc (sbox p S) = W0 ∧ w.heap.size = X ∧ W0.heap.size = X + 1) := ⟨hW1.symm, hW0.symm, hX, hs0⟩
 have HB : Hid (_) := hb1
 have HC : Hid (_) := c1
 have hn1 : Hid (S.ino.length ≤ lim) := h.n1
 have q0 := hb1.x0
 have HR : Hid (_) := hr
 obtain ⟨hn0, -⟩ := at_get hr
 have HA : Hid (p.a1 = some ⟨b, o, none⟩ ∧ i < S.ino.length ∧ S.ino.length ≤ lim) := ⟨ha, hn0, h.n1⟩
 clear ha hn0
 clear hW0 hX hb h hW1 hb1 hs0 c1 hr
 go_enter Tryz.func48, Tryz.ntmps48
 go_upto_region 1 with fail
 rw [HW.out.2.1, HW.out.1, HW.out.2.2.1]
 clear HW
 have hmf := makeF
 go_wp2_with fail
 refine (ix_inode HB.out.sv.ino hn1.out _ num _ HC.out).mono ?_
 rintro e w1 ⟨rfl, k1⟩
 have HK : Hid (Kept [] w w1) := HB.out.k.trans k1 (by simp)
 have q1 := k1.cell q0 (by simp)
 rw [HR.out]
 clear k1 q0
 unfold ixI
 rw [HA.out.1] at q1
 have hn := HA.out.2.1
 have hl := HA.out.2.2
 unfold lim at hl
 have i0 : (0 : Int) ≤ (i : Int) := by omega
 have i1 : (i : Int) < (S.ino.length : Int) := by omega
 have i2 : ¬ (i : Int) < 0 := by omega
 go_wp2_with fail
 go_ret
 exact ⟨rfl, HK.out⟩
theorem idx_some {α : Type} {L : List α} {f : α → Bool} {n : Nat} (hn : n < L.length) (h : f L[n] = true) (hj : ∀ j (hj : j < L.length), j < n → f L[j] = false) : L.findIdx? f = some n := by
 rw [List.findIdx?_eq_some_iff_getElem]
 exact ⟨hn, h, fun j hjn => by simp [hj j (by omega) hjn]⟩
theorem idx_none {α : Type} {L : List α} {f : α → Bool} (h : ∀ j (hj : j < L.length), f L[j] = false) : L.findIdx? f = none := by
 rw [List.findIdx?_eq_none_iff]
 intro x hx
 obtain ⟨j, hj, rfl⟩ := List.getElem_of_mem hx
 exact h j hj
theorem idx_get {α : Type} {L : List α} {f : α → Bool} {n : Nat} (h : L.findIdx? f = some n) : ∃ hn : n < L.length, f L[n] = true := by
 rw [List.findIdx?_eq_some_iff_getElem] at h
 obtain ⟨hn, h1, -⟩ := h
 exact ⟨hn, h1⟩
def plR (E : List En) (s : ByteArray) : Option Nat := E.findIdx? fun e => e.1.toList == s.toList
def fdP (D : List Ds) (c f : Int) : Option Nat := D.findIdx? fun d => d.1 == c && d.2.1 == f
def opP (D : List Ds) (num : Int) : Option Nat := D.findIdx? fun d => d.2.2 == num
theorem ix_entry {w : World} {a : Option Addr} {L : List En} (hL : EntA w a L) (hn : L.length ≤ lim) (c : Nat) (s : ByteArray) (X : Nat) (hX : w.cell? ⟨X, 0, none⟩ = some (.string s)) :
  Calls Tryz.prog 74 #[.slice a L.length c, .func (.func 75) #[] #[.pointer (some ⟨X, 0, none⟩)]] w fun e w' => e = .returned (.int .i64 (ixI (plR L s))) ∧ Kept [] w w' := by
 have HL : Hid (EntA w a L) := hL
 have HX : Hid (_) := hX
 unfold lim at hn
 clear hL hX
 go_enter Tryz.func74, Tryz.ntmps74
 go_wp2_with fail
 go_loopw [8] (fun i wr => ∃ n : Nat, i = .int .i64 (n : Int) ∧ n ≤ L.length ∧ Hid (Kept [] w wr ∧ ∀ j (hj : j < L.length), j < n → ((L[j]).1.toList == s.toList) = false)) (fun i _ => (L.length - intOf i).toNat)
 case atStart => exact ⟨0, rfl, by omega, Kept.refl _ _, fun j _ hj => by omega⟩
 case round =>
  obtain ⟨n, rfl, hn, HJ⟩ := hrel
  by_cases hlt : n < L.length
  ·
   have i0 : (0 : Int) ≤ (n : Int) := by omega
   have i1 : (n : Int) < (L.length : Int) := by omega
   obtain ⟨b, o, ha, h1, h2⟩ := (HL.out.kept HJ.out.1) n hlt
   subst ha
   have HX2 : Hid (wr.cell? ⟨X, 0, none⟩ = some (.string s)) := HJ.out.1.cell HX.out (by simp)
   have HP : Hid (∃ x, x = ((L[n]).1.toList == s.toList)) := ⟨_, rfl⟩
   go_wp2_with fail
   refine (k_place (L[n]).1 s (L[n]).2 X HX2.out).mono ?_
   rintro e w1 ⟨rfl, k1⟩
   have HK : Hid (Kept [] w w1) := HJ.out.1.trans k1 (by simp)
   clear k1 HP
   rcases he : ((L[n]).1.toList == s.toList) with _ | _
   ·
    have HE : Hid (Kept [] w w1 ∧ ∀ j (hj : j < L.length), j < n + 1 → ((L[j]).1.toList == s.toList) = false) := ⟨HK.out, fun j hj hjn => by
     by_cases e : j = n
     · subst e; exact he
     · exact HJ.out.2 j hj (by omega)⟩
    clear he HJ HK
    go_wp2_with fail
    go_roundw
    case rel => exact ⟨n + 1, by go_num, by omega, HE.out⟩
    case measure => simp [intOf]; omega
   ·
    have HE : Hid (plR L s = some n) := idx_some hlt he HJ.out.2
    clear he HJ
    go_wp2_with fail
    go_ret
    exact ⟨ret_int (by rw [HE.out]; rfl), HK.out⟩
  ·
   have i1 : ¬ (n : Int) < (L.length : Int) := by omega
   have HE : Hid (plR L s = none) := idx_none fun j hj => HJ.out.2 j hj (by omega)
   go_wp2_with fail
   go_ret
   exact ⟨ret_int (by rw [HE.out]; rfl), HJ.out.1⟩
theorem ix_isopen {w : World} {a : Option Addr} {L : List Ds} (hL : DesA w a L) (hn : L.length ≤ lim) (c : Nat) (num : Int) (X : Nat) (hX : w.cell? ⟨X, 0, none⟩ = some (.int .i64 num)) :
  Calls Tryz.prog 122 #[.slice a L.length c, .func (.func 83) #[] #[.pointer (some ⟨X, 0, none⟩)]] w fun e w' => e = .returned (.int .i64 (ixI (opP L num))) ∧ Kept [] w w' := by
 have HL : Hid (DesA w a L) := hL
 have HX : Hid (_) := hX
 unfold lim at hn
 clear hL hX
 go_enter Tryz.func122, Tryz.ntmps122
 go_wp2_with fail
 go_loopw [8] (fun i wr => ∃ n : Nat, i = .int .i64 (n : Int) ∧ n ≤ L.length ∧ Hid (Kept [] w wr ∧ ∀ j (hj : j < L.length), j < n → ((L[j]).2.2 == num) = false)) (fun i _ => (L.length - intOf i).toNat)
 case atStart => exact ⟨0, rfl, by omega, Kept.refl _ _, fun j _ hj => by omega⟩
 case round =>
  obtain ⟨n, rfl, hn, HJ⟩ := hrel
  by_cases hlt : n < L.length
  ·
   have i0 : (0 : Int) ≤ (n : Int) := by omega
   have i1 : (n : Int) < (L.length : Int) := by omega
   obtain ⟨b, o, ha, h1, h2, h3⟩ := (HL.out.kept HJ.out.1) n hlt
   subst ha
   have HX2 : Hid (wr.cell? ⟨X, 0, none⟩ = some (.int .i64 num)) := HJ.out.1.cell HX.out (by simp)
   have HP : Hid (∃ x, x = ((L[n]).2.2 == num)) := ⟨_, rfl⟩
   go_wp2_with fail
   refine (k_isopen (L[n]).1 (L[n]).2.1 (L[n]).2.2 num X HX2.out).mono ?_
   rintro e w1 ⟨rfl, k1⟩
   have HK : Hid (Kept [] w w1) := HJ.out.1.trans k1 (by simp)
   clear k1 HP
   rcases he : ((L[n]).2.2 == num) with _ | _
   ·
    have HE : Hid (Kept [] w w1 ∧ ∀ j (hj : j < L.length), j < n + 1 → ((L[j]).2.2 == num) = false) := ⟨HK.out, fun j hj hjn => by
     by_cases e : j = n
     · subst e; exact he
     · exact HJ.out.2 j hj (by omega)⟩
    clear he HJ HK
    go_wp2_with fail
    go_roundw
    case rel => exact ⟨n + 1, by go_num, by omega, HE.out⟩
    case measure => simp [intOf]; omega
   ·
    have HE : Hid (opP L num = some n) := idx_some hlt he HJ.out.2
    clear he HJ
    go_wp2_with fail
    go_ret
    exact ⟨ret_int (by rw [HE.out]; rfl), HK.out⟩
  ·
   have i1 : ¬ (n : Int) < (L.length : Int) := by omega
   have HE : Hid (opP L num = none) := idx_none fun j hj => HJ.out.2 j hj (by omega)
   go_wp2_with fail
   go_ret
   exact ⟨ret_int (by rw [HE.out]; rfl), HJ.out.1⟩
theorem p_place {w : World} {a : Option Addr} {E : List En} (hE : EntA w a E) (hn : E.length ≤ lim) (c : Nat) (s : ByteArray) :
  Calls Tryz.prog 49 #[.slice a E.length c, .string s] w fun e w' => e = .returned (.int .i64 (ixI (plR E s))) ∧ Kept [] w w' := by
 obtain ⟨W0, hW0⟩ : ∃ W0, W0 = w.alloc (.cells #[.string s] 9 (0, 0)) := ⟨_, rfl⟩
 have k0 : Hid (Kept [] w W0) := by rw [hW0]; exact (Kept.refl [] w).alloc _
 have HC : Hid (W0.cell? ⟨w.heap.size, 0, none⟩ = some (.string s)) := by rw [hW0]; exact cell_new _ _ _ _
 have HE : Hid (EntA W0 a E ∧ E.length ≤ lim) := ⟨hE.kept k0.out, hn⟩
 have HW : Hid (_) := hW0.symm
 clear hW0 hE hn
 go_enter Tryz.func49, Tryz.ntmps49
 go_upto_region 1 with fail
 rw [HW.out]
 clear HW
 have hmf := makeF
 go_wp2_with fail
 refine (ix_entry HE.out.1 HE.out.2 _ s _ HC.out).mono ?_
 rintro e w1 ⟨rfl, k1⟩
 have HK : Hid (Kept [] w w1) := k0.out.trans k1 (by simp)
 clear k1
 go_wp2_with fail
 go_ret
 exact ⟨rfl, HK.out⟩
theorem has_isopen {w : World} {a : Option Addr} {L : List Ds} (hL : DesA w a L) (hn : L.length ≤ lim) (c : Nat) (num : Int) (X : Nat) (hX : w.cell? ⟨X, 0, none⟩ = some (.int .i64 num)) :
  Calls Tryz.prog 82 #[.slice a L.length c, .func (.func 83) #[] #[.pointer (some ⟨X, 0, none⟩)]] w fun e w' => e = .returned (.bool (opP L num).isSome) ∧ Kept [] w w' := by
 have HL : Hid (DesA w a L ∧ L.length ≤ lim) := ⟨hL, hn⟩
 have HX : Hid (_) := hX
 clear hL hX hn
 go_enter Tryz.func82, Tryz.ntmps82
 go_wp2_with fail
 refine (ix_isopen HL.out.1 HL.out.2 _ num _ HX.out).mono ?_
 rintro e w1 ⟨rfl, k1⟩
 have HK : Hid (_) := k1
 clear k1
 rcases hr : opP L num with _ | i
 ·
  have HR : Hid (_) := hr
  clear hr
  unfold ixI
  go_wp2_with fail
  go_ret
  exact ⟨ret_bool (by rw [HR.out]; rfl), HK.out⟩
 ·
  have i2 : (0 : Int) ≤ (i : Int) := by omega
  have HR : Hid (_) := hr
  clear hr
  unfold ixI
  go_wp2_with fail
  go_ret
  exact ⟨ret_bool (by rw [HR.out]; rfl), HK.out⟩
theorem p_isopen {w : World} {p : Pl} {S : Sta} (h : Sv w p S) (num : Int) :
  Calls Tryz.prog 57 #[sval p S, .int .i64 num] w fun e w' => e = .returned (.bool (opP S.opn num).isSome) ∧ Kept [] w w' := by
 have hb := h.boxed
 obtain ⟨W0, hW0⟩ : ∃ W0, W0 = w.alloc (sbox p S) := ⟨_, rfl⟩
 obtain ⟨X, hX⟩ : ∃ X, w.heap.size = X := ⟨_, rfl⟩
 rw [← hW0, hX] at hb
 obtain ⟨W1, hW1⟩ : ∃ W1, W1 = W0.alloc (.cells #[.int .i64 num] 3 (0, 0)) := ⟨_, rfl⟩
 have hb1 : Bx w W1 X p S := hb.kept (by rw [hW1]; exact (Kept.refl [] W0).alloc _)
 have hs0 : W0.heap.size = X + 1 := by rw [hW0, ← hX]; simp
 have c1 : W1.cell? ⟨X + 1, 0, none⟩ = some (.int .i64 num) := by rw [hW1, ← hs0]; exact cell_new _ _ _ _
 have HW : Hid (W0.alloc (.cells #[.int .i64 num] 3 (0, 0)) = W1 ∧ w.alloc (sbox p S) = W0 ∧ w.heap.size = X ∧ W0.heap.size = X + 1) := ⟨hW1.symm, hW0.symm, hX, hs0⟩
 have HB : Hid (_) := hb1
 have HC : Hid (_) := c1
 have hn1 : Hid (S.opn.length ≤ lim) := h.n2
 have q1 := hb1.x1
 clear hW0 hX hb h hW1 hb1 hs0 c1
 go_enter Tryz.func57, Tryz.ntmps57
 go_upto_region 1 with fail
 rw [HW.out.2.1, HW.out.1, HW.out.2.2.1]
 clear HW
 have hmf := makeF
 go_wp2_with fail
 refine (has_isopen HB.out.sv.des hn1.out _ num _ HC.out).mono ?_
 rintro e w1 ⟨rfl, k1⟩
 have HK : Hid (Kept [] w w1) := HB.out.k.trans k1 (by simp)
 clear k1
 go_wp2_with fail
 go_ret
 exact ⟨rfl, HK.out⟩
end Go.Proofs.YtffncojcnbhblaaGreatDoor
