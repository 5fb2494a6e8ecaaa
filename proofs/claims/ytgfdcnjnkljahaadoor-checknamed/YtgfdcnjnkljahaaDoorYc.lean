/-
  What of a state is asked for again and again; isThere, entriesOf.
-/
import Derived.Test.YtgfdcnjnkljahaaDoorYb0
namespace Go.Proofs.YtgfdcnjnkljahaaDoor
open Go.RowKit Go.Lib Go.Maps
set_option linter.unusedVariables false

/-- A number has another. -/
def upM (g : Int → Option Int) (k v : Int) : Int → Option Int := fun j => if j = k then some v else g j

/-- Of each number its first inode's place. -/
def plcG : List Ino → Nat → (Int → Option Int) → (Int → Option Int)
  | [], _, g => g
  | x :: L, i, g => plcG L (i + 1) (if (g x.num).isSome then g else upM g x.num (i : Int))

/-- Entries that count. -/
def entsOfI (x : Ino) : List En := if x.dir then x.ents else []

/-- Of each number how many entries. -/
def entE : List En → (Int → Option Int) → (Int → Option Int)
  | [], g => g
  | e :: E, g => entE E (upM g e.2 ((g e.2).getD 0 + 1))

def entG : List Ino → (Int → Option Int) → (Int → Option Int)
  | [], g => g
  | x :: L, g => entG L (entE (entsOfI x) g)

/-- Of each number how many descriptors. -/
def fdsG : List Ds → (Int → Option Int) → (Int → Option Int)
  | [], g => g
  | d :: D, g => fdsG D (upM g d.2.2 ((g d.2.2).getD 0 + 1))

/-- Counts up to m. -/
def Cn (g : Int → Option Int) (m : Nat) : Prop := ∀ k, 0 ≤ (g k).getD 0 ∧ (g k).getD 0 ≤ (m : Int)

theorem Cn.up {g : Int → Option Int} {m : Nat} (h : Cn g m) (k : Int) : Cn (upM g k ((g k).getD 0 + 1)) (m + 1) := by
  intro j
  unfold upM
  by_cases e : j = k
  · simp only [e, if_true, Option.getD_some]; have := h k; omega
  · simp only [e, if_false]; have := h j; omega

theorem Cn.wf {g : Int → Option Int} {m : Nat} (h : Cn g m) (hm : m ≤ 1000000) (k : Int) : Wf ((g k).getD 0 + 1) := wf_of (by have := h k; omega) (by have := h k; omega)

theorem Cn.mono {g : Int → Option Int} {m n : Nat} (h : Cn g m) (hm : m ≤ n) : Cn g n := fun k => by have := h k; omega

theorem t_isThere {w : World} {X b n : Nat} {g : Int → Option Int} (hc : w.cell? ⟨X, 3, none⟩ = some (.map (some b))) (hm : Mi w b n g) (num : Int) (hn : Wf num) :
    Calls Tryd.prog 26 #[.pointer (some ⟨X, 0, none⟩), .int .i64 num] w fun e w' => e = .returned (.bool (g num).isSome) ∧ w' = w := by
  have hl := hm.look_ok hn
  clear hm hn
  go_enter Tryd.func26, Tryd.ntmps26
  go_wp2
  go_ret
  exact ⟨rfl, rfl⟩

theorem t_entriesOf (num : Int) (dir : Bool) (a : Option Addr) (n c : Nat) (s : ByteArray) (w : World) :
    Calls Tryd.prog 27 #[.agg #[.int .i64 num, .bool dir, .slice a n c, .string s]] w fun e w' => e = .returned (if dir then .slice a n c else .slice none 0 0) ∧ Kept [] w w' := by
  cases dir
  · go_enter Tryd.func27, Tryd.ntmps27
    go_wp2
    go_ret
    exact ⟨rfl, (Kept.refl _ _).alloc _⟩
  · go_enter Tryd.func27, Tryd.ntmps27
    go_wp2
    go_ret
    exact ⟨rfl, (Kept.refl _ _).alloc _⟩

theorem Lk.put1 {w0 w w' : World} {h : Wh} {p : Pl} {S : Sta} {n : Nat} {g1 g2 g3 g : Int → Option Int} {fd : List Bool} (a : Lk w0 w h p S n g1 g2 g3 fd) (m : Mi w' h.b1 (n + 1) g) (k : Kept [h.b1] w w') : Lk w0 w' h p S (n + 1) g g2 g3 fd :=
  ⟨a.kept.trans k (fun x hx => Or.inr (by simp at hx; subst hx; exact a.ok.x1)), a.ok, by rw [k.block _ (lt_of_heap a.blk) (by simpa using a.ok.d1)]; exact a.blk, m, (a.m2.kept k (by simpa using a.ok.d5.symm)).mono (by omega), (a.m3.kept k (by simpa using a.ok.d6.symm)).mono (by omega), by rw [k.block _ (lt_of_heap a.fnd) (by simpa using a.ok.d7.symm)]; exact a.fnd⟩

theorem Lk.put2 {w0 w w' : World} {h : Wh} {p : Pl} {S : Sta} {n : Nat} {g1 g2 g3 g : Int → Option Int} {fd : List Bool} (a : Lk w0 w h p S n g1 g2 g3 fd) (m : Mi w' h.b2 (n + 1) g) (k : Kept [h.b2] w w') : Lk w0 w' h p S (n + 1) g1 g g3 fd :=
  ⟨a.kept.trans k (fun x hx => Or.inr (by simp at hx; subst hx; exact a.ok.x2)), a.ok, by rw [k.block _ (lt_of_heap a.blk) (by simpa using a.ok.d2)]; exact a.blk, (a.m1.kept k (by simpa using a.ok.d5)).mono (by omega), m, (a.m3.kept k (by simpa using a.ok.d8.symm)).mono (by omega), by rw [k.block _ (lt_of_heap a.fnd) (by simpa using a.ok.d9.symm)]; exact a.fnd⟩

theorem Lk.put3 {w0 w w' : World} {h : Wh} {p : Pl} {S : Sta} {n : Nat} {g1 g2 g3 g : Int → Option Int} {fd : List Bool} (a : Lk w0 w h p S n g1 g2 g3 fd) (m : Mi w' h.b3 (n + 1) g) (k : Kept [h.b3] w w') : Lk w0 w' h p S (n + 1) g1 g2 g fd :=
  ⟨a.kept.trans k (fun x hx => Or.inr (by simp at hx; subst hx; exact a.ok.x3)), a.ok, by rw [k.block _ (lt_of_heap a.blk) (by simpa using a.ok.d3)]; exact a.blk, (a.m1.kept k (by simpa using a.ok.d6)).mono (by omega), (a.m2.kept k (by simpa using a.ok.d8)).mono (by omega), m, by rw [k.block _ (lt_of_heap a.fnd) (by simpa using a.ok.d0.symm)]; exact a.fnd⟩

theorem Lk.mono {w0 w : World} {h : Wh} {p : Pl} {S : Sta} {n m : Nat} {g1 g2 g3 : Int → Option Int} {fd : List Bool} (a : Lk w0 w h p S n g1 g2 g3 fd) (hm : n ≤ m) : Lk w0 w h p S m g1 g2 g3 fd :=
  ⟨a.kept, a.ok, a.blk, a.m1.mono hm, a.m2.mono hm, a.m3.mono hm, a.fnd⟩

end Go.Proofs.YtgfdcnjnkljahaaDoor
