/-
  States of a file system, told plainly; how one lies in memory, to be read.
-/
import Derived.Test.YtgfdcnjnkljahaaDoorCl
import Derived.Test.YtgfdcnjnkljahaaDoorEr
import Derived.BigQuiet
namespace Go.Proofs.YtgfdcnjnkljahaaDoor
open Go.RowKit
set_option linter.unusedVariables false

/-- A descriptor: core, place, number. -/
abbrev Ds := Int × Int × Int

/-- An inode. -/
structure Ino where
  num : Int
  dir : Bool
  ents : List En
  data : ByteArray

/-- A state. -/
structure Sta where
  ino : List Ino
  opn : List Ds
  made : List Int

/-! ### How it lies in memory -/

/-- Entries from an address on. -/
def EntA (w : World) (a : Option Addr) (E : List En) : Prop :=
  ∀ i (hi : i < E.length), ∃ b o, a = some ⟨b, o, none⟩ ∧ w.cell? ⟨b, o + i * 2, none⟩ = some (.string (E[i]).1) ∧ w.cell? ⟨b, o + i * 2 + 1, none⟩ = some (.int .i64 (E[i]).2)

/-- Inodes from an address on. -/
def InoA (w : World) (a : Option Addr) (L : List Ino) : Prop :=
  ∀ i (hi : i < L.length), ∃ b o ae ce, a = some ⟨b, o, none⟩ ∧ w.cell? ⟨b, o + i * 4, none⟩ = some (.int .i64 (L[i]).num) ∧ w.cell? ⟨b, o + i * 4 + 1, none⟩ = some (.bool (L[i]).dir) ∧
    w.cell? ⟨b, o + i * 4 + 2, none⟩ = some (.slice ae (L[i]).ents.length ce) ∧ w.cell? ⟨b, o + i * 4 + 3, none⟩ = some (.string (L[i]).data) ∧ EntA w ae (L[i]).ents ∧ (L[i]).ents.length ≤ ce ∧ True

/-- Descriptors from an address on. -/
def DesA (w : World) (a : Option Addr) (D : List Ds) : Prop :=
  ∀ i (hi : i < D.length), ∃ b o, a = some ⟨b, o, none⟩ ∧ w.cell? ⟨b, o + i * 3, none⟩ = some (.int .i64 (D[i]).1) ∧ w.cell? ⟨b, o + i * 3 + 1, none⟩ = some (.int .i64 (D[i]).2.1) ∧ w.cell? ⟨b, o + i * 3 + 2, none⟩ = some (.int .i64 (D[i]).2.2)

/-- Ints from an address on. -/
def IntA (w : World) (a : Option Addr) (M : List Int) : Prop :=
  ∀ i (hi : i < M.length), ∃ b o, a = some ⟨b, o, none⟩ ∧ w.cell? ⟨b, o + i, none⟩ = some (.int .i64 M[i])

/-- How many items one piece of memory may have, here. -/
def lim : Nat := 140737488355328

/-- Where a state's three lists lie. -/
structure Pl where
  a1 : Option Addr
  c1 : Nat
  a2 : Option Addr
  c2 : Nat
  a3 : Option Addr
  c3 : Nat

/-- The state's value. -/
@[reducible] def sval (p : Pl) (S : Sta) : Value := .agg #[.slice p.a1 S.ino.length p.c1, .slice p.a2 S.opn.length p.c2, .slice p.a3 S.made.length p.c3]

/-- A state as it lies. -/
structure Sv (w : World) (p : Pl) (S : Sta) : Prop where
  ino : InoA w p.a1 S.ino
  des : DesA w p.a2 S.opn
  mad : IntA w p.a3 S.made
  n1 : S.ino.length ≤ lim
  n2 : S.opn.length ≤ lim
  n3 : S.made.length ≤ lim
  n4 : ∀ x ∈ S.ino, x.ents.length ≤ lim
  w1 : ∀ x ∈ S.ino, x.num ≤ 9223372036854775807
  k1 : S.ino.length ≤ p.c1
  k2 : S.opn.length ≤ p.c2
  k3 : S.made.length ≤ p.c3
  f2 : True
  f3 : True

theorem EntA.kept {w w' : World} {a : Option Addr} {E : List En} (h : EntA w a E) (k : Kept [] w w') : EntA w' a E := fun i hi => by
  obtain ⟨b, o, e, h1, h2⟩ := h i hi
  exact ⟨b, o, e, k.cell h1 (by simp), k.cell h2 (by simp)⟩

theorem InoA.kept {w w' : World} {a : Option Addr} {L : List Ino} (h : InoA w a L) (k : Kept [] w w') : InoA w' a L := fun i hi => by
  obtain ⟨b, o, ae, ce, e, h1, h2, h3, h4, h5, h6⟩ := h i hi
  exact ⟨b, o, ae, ce, e, k.cell h1 (by simp), k.cell h2 (by simp), k.cell h3 (by simp), k.cell h4 (by simp), h5.kept k, h6⟩

theorem DesA.kept {w w' : World} {a : Option Addr} {D : List Ds} (h : DesA w a D) (k : Kept [] w w') : DesA w' a D := fun i hi => by
  obtain ⟨b, o, e, h1, h2, h3⟩ := h i hi
  exact ⟨b, o, e, k.cell h1 (by simp), k.cell h2 (by simp), k.cell h3 (by simp)⟩

theorem IntA.kept {w w' : World} {a : Option Addr} {M : List Int} (h : IntA w a M) (k : Kept [] w w') : IntA w' a M := fun i hi => by
  obtain ⟨b, o, e, h1⟩ := h i hi
  exact ⟨b, o, e, k.cell h1 (by simp)⟩

theorem Sv.kept {w w' : World} {p : Pl} {S : Sta} (h : Sv w p S) (k : Kept [] w w') : Sv w' p S :=
  ⟨h.ino.kept k, h.des.kept k, h.mad.kept k, h.n1, h.n2, h.n3, h.n4, h.w1, h.k1, h.k2, h.k3, h.f2, h.f3⟩

/-- A box of a state's value. -/
@[reducible] def sbox (p : Pl) (S : Sta) : Obj := .cells #[.slice p.a1 S.ino.length p.c1, .slice p.a2 S.opn.length p.c2, .slice p.a3 S.made.length p.c3] 27 (0, 0)

/-- A state, and its value in a box of a call's own. -/
structure Bx (w0 w : World) (X : Nat) (p : Pl) (S : Sta) : Prop where
  sv : Sv w p S
  k : Kept [] w0 w
  x0 : w.cell? ⟨X, 0, none⟩ = some (.slice p.a1 S.ino.length p.c1)
  x1 : w.cell? ⟨X, 1, none⟩ = some (.slice p.a2 S.opn.length p.c2)
  x2 : w.cell? ⟨X, 2, none⟩ = some (.slice p.a3 S.made.length p.c3)

theorem cellB {w : World} {B i : Nat} {cs : Array Value} {t : TypeId} {z : Nat × Nat} (h : w.heap[B]? = some (.cells cs t z)) : w.cell? ⟨B, i, none⟩ = cs[i]? := by
  simp [World.cell?, h]

theorem cell_new (w : World) (cs : Array Value) (t : TypeId) (i : Nat) : (w.alloc (.cells cs t (0, 0))).cell? ⟨w.heap.size, i, none⟩ = cs[i]? :=
  cellB (Go.heap_alloc_new w (.cells cs t (0, 0)))

theorem Sv.boxed {w : World} {p : Pl} {S : Sta} (h : Sv w p S) : Bx w (w.alloc (sbox p S)) w.heap.size p S :=
  ⟨h.kept ((Kept.refl [] w).alloc _), (Kept.refl [] w).alloc _, cell_new _ _ _ _, cell_new _ _ _ _, cell_new _ _ _ _⟩

theorem Bx.kept {w0 w w' : World} {X : Nat} {p : Pl} {S : Sta} (h : Bx w0 w X p S) (k : Kept [] w w') : Bx w0 w' X p S :=
  ⟨h.sv.kept k, h.k.trans k (by simp), k.cell h.x0 (by simp), k.cell h.x1 (by simp), k.cell h.x2 (by simp)⟩

/-! ### At -/

/-- An inode's place. -/
def atR (L : List Ino) (num : Int) : Option Nat := L.findIdx? fun x => x.num == num

/-- A place as a number: -1, if there is none. -/
def ixI : Option Nat → Int
  | none => -1
  | some i => (i : Int)

theorem at_some {L : List Ino} {num : Int} {n : Nat} (hn : n < L.length) (h : (L[n]).num = num) (hj : ∀ j (hj : j < L.length), j < n → (L[j]).num ≠ num) : atR L num = some n := by
  unfold atR
  rw [List.findIdx?_eq_some_iff_getElem]
  exact ⟨hn, by simpa using h, fun j hjn => by simpa using hj j (by omega) hjn⟩

theorem at_none {L : List Ino} {num : Int} (h : ∀ j (hj : j < L.length), (L[j]).num ≠ num) : atR L num = none := by
  unfold atR
  rw [List.findIdx?_eq_none_iff]
  intro x hx
  obtain ⟨j, hj, rfl⟩ := List.getElem_of_mem hx
  simpa using h j hj

theorem at_get {L : List Ino} {num : Int} {n : Nat} (h : atR L num = some n) : ∃ hn : n < L.length, (L[n]).num = num := by
  unfold atR at h
  rw [List.findIdx?_eq_some_iff_getElem] at h
  obtain ⟨hn, h1, -⟩ := h
  exact ⟨hn, by simpa using h1⟩

/-- The number of a name among entries; 0: there is none. -/
def entR (E : List En) (s : ByteArray) : Int := match E.find? (fun e => e.1.toList == s.toList) with
  | none => 0
  | some e => e.2

/-- The number of a name in a directory; 0: there is none. -/
def entryR (L : List Ino) (d : Int) (s : ByteArray) : Int := match atR L d with
  | none => 0
  | some k => entR ((L[k]?.map Ino.ents).getD []) s

theorem ent_some {E : List En} {s : ByteArray} {n : Nat} (hn : n < E.length) (h : ((E[n]).1.toList == s.toList) = true) (hj : ∀ j (hj : j < E.length), j < n → ((E[j]).1.toList == s.toList) = false) : entR E s = (E[n]).2 := by
  unfold entR
  have : E.find? (fun e => e.1.toList == s.toList) = some E[n] := by
    rw [List.find?_eq_some_iff_getElem]
    exact ⟨h, n, hn, rfl, fun j hjn => by simp [hj j (by omega) hjn]⟩
  rw [this]

theorem ent_none {E : List En} {s : ByteArray} (h : ∀ j (hj : j < E.length), ((E[j]).1.toList == s.toList) = false) : entR E s = 0 := by
  unfold entR
  have : E.find? (fun e => e.1.toList == s.toList) = none := by
    rw [List.find?_eq_none]
    intro x hx
    obtain ⟨j, hj, rfl⟩ := List.getElem_of_mem hx
    simp [h j hj]
  rw [this]

/-- How many of entries have a number. -/
def cnt (E : List En) (num : Int) : Nat := E.countP fun e => e.2 == num

/-- How many entries of directories have it. -/
def linksR (L : List Ino) (num : Int) : Nat := (L.map fun x => if x.dir then cnt x.ents num else 0).sum

theorem cnt_take {E : List En} {num : Int} {n : Nat} (h : n < E.length) : cnt (E.take (n + 1)) num = cnt (E.take n) num + if (E[n]).2 = num then 1 else 0 := by
  unfold cnt
  rw [List.take_succ_eq_append_getElem h, List.countP_append]
  congr 1
  by_cases e : (E[n]).2 = num
  · simp [e]
  · simp [e]

theorem cnt_le (E : List En) (num : Int) : cnt E num ≤ E.length := List.countP_le_length

theorem links_take {L : List Ino} {num : Int} {n : Nat} (h : n < L.length) : linksR (L.take (n + 1)) num = linksR (L.take n) num + if (L[n]).dir then cnt (L[n]).ents num else 0 := by
  unfold linksR
  rw [List.take_succ_eq_append_getElem h, List.map_append, List.sum_append]
  simp

theorem links_le {L : List Ino} {num : Int} (hl : ∀ x ∈ L, x.ents.length ≤ lim) : linksR L num ≤ L.length * lim := by
  unfold linksR
  induction L with
  | nil => simp
  | cons x L ih =>
    have h1 := ih fun y hy => hl y (List.mem_cons_of_mem _ hy)
    have h2 := hl x (List.mem_cons_self ..)
    have h3 := cnt_le x.ents num
    simp only [List.map_cons, List.sum_cons, List.length_cons]
    have h4 : (if x.dir then cnt x.ents num else 0) ≤ lim := by split <;> omega
    rw [Nat.add_mul]
    omega

theorem links_big {L : List Ino} {num : Int} (hs : L.length ≤ 60000) (hl : ∀ x ∈ L, x.ents.length ≤ lim) : linksR L num ≤ 8444249301319680000 := by
  have e : 60000 * lim = 8444249301319680000 := by simp [lim]
  rw [← e]
  exact Nat.le_trans (links_le hl) (Nat.mul_le_mul_right lim hs)

/-- The inode of a descriptor; 0: there is none. -/
def fdR (D : List Ds) (c f : Int) : Int := match D.find? (fun d => d.1 == c && d.2.1 == f) with
  | none => 0
  | some d => d.2.2

theorem fd_some {D : List Ds} {c f : Int} {n : Nat} (hn : n < D.length) (h : (D[n]).1 = c ∧ (D[n]).2.1 = f) (hj : ∀ j (hj : j < D.length), j < n → ¬ ((D[j]).1 = c ∧ (D[j]).2.1 = f)) : fdR D c f = (D[n]).2.2 := by
  unfold fdR
  have : D.find? (fun d => d.1 == c && d.2.1 == f) = some D[n] := by
    rw [List.find?_eq_some_iff_getElem]
    exact ⟨by simp [h.1, h.2], n, hn, rfl, fun j hjn => by
      have := hj j (by omega) hjn
      simp only [Bool.not_eq_true', Bool.and_eq_false_iff, beq_eq_false_iff_ne]
      by_cases e : (D[j]).1 = c
      · exact Or.inr fun e2 => this ⟨e, e2⟩
      · exact Or.inl e⟩
  rw [this]

theorem fd_none {D : List Ds} {c f : Int} (h : ∀ j (hj : j < D.length), ¬ ((D[j]).1 = c ∧ (D[j]).2.1 = f)) : fdR D c f = 0 := by
  unfold fdR
  have : D.find? (fun d => d.1 == c && d.2.1 == f) = none := by
    rw [List.find?_eq_none]
    intro x hx
    obtain ⟨j, hj, rfl⟩ := List.getElem_of_mem hx
    have := h j hj
    simpa using this
  rw [this]

end Go.Proofs.YtgfdcnjnkljahaaDoor
