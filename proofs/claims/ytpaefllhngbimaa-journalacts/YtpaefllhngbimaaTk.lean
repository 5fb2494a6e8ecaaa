/-
  A region's operations taken one by one: the rules of the library with fewer words.
-/
import Derived.Deep.RegionHeld3
import Derived.KernelRfl
import Derived.WalkKit
namespace Go.Proofs.Ytpaefllhngbimaa

theorem tkA {P : Program} {ops : Array Oper} {Q : Exit → Act → World → Prop} {md : Region.Mode} {S : World → Prop} (i : Nat) {oi : Oper} {v : Value} {fuel : Nat} {listed : Array Bool} {a b : Act} {w : World} (hi : ops[i]? = some oi)
    (h : wpAnyH P md ops Q S fuel (listed.setIfInBounds i true) b w)
    (hy : ∀ w, S w → (execOp a.eval oi).run P w = .ok (.value v) w := by intro w hSw; go_simp; try with_reducible rfl)
    (hs : Region.noSelect ops = true := by kernel_rfl) (hf : Region.free md ops listed i = true := by kernel_rfl) (hr : (Region.ready md ops listed).contains i = true := by kernel_rfl)
    (hg : Region.wanted oi (yielded ops a.tmps) = true := by rfl) (hS : S w := by assumption) (hQ : ∀ c a w, Q (.panic c) (a.put oi.dst v) w → Q (.panic c) a w := by exact fun _ _ _ h => h)
    (hb : a.put oi.dst v = b := by (try simp only [Act.put, List.setIfInBounds_toArray, List.set_cons_zero, List.set_cons_succ, List.getElem_toArray, List.getElem_cons_zero, List.getElem_cons_succ]); rfl) : wpAnyH P md ops Q S (fuel + 1) listed a w :=
  wpAnyH_take hi hs hf hr hQ (Or.inl ⟨hg, hy⟩) hS (hb ▸ h)

theorem skA {P : Program} {ops : Array Oper} {Q : Exit → Act → World → Prop} {md : Region.Mode} {S : World → Prop} (i : Nat) {oi : Oper} {fuel : Nat} {listed : Array Bool} {a b : Act} {w : World} (hi : ops[i]? = some oi)
    (h : wpAnyH P md ops Q S fuel (listed.setIfInBounds i true) b w)
    (hs : Region.noSelect ops = true := by kernel_rfl) (hf : Region.free md ops listed i = true := by kernel_rfl) (hr : (Region.ready md ops listed).contains i = true := by kernel_rfl)
    (hg : Region.wanted oi (yielded ops a.tmps) = false := by rfl) (hS : S w := by assumption) (hQ : ∀ c a w, Q (.panic c) (a.put oi.dst undef) w → Q (.panic c) a w := by exact fun _ _ _ h => h)
    (hb : a.put oi.dst undef = b := by (try simp only [Act.put, List.setIfInBounds_toArray, List.set_cons_zero, List.set_cons_succ, List.getElem_toArray, List.getElem_cons_zero, List.getElem_cons_succ]); rfl) : wpAnyH P md ops Q S (fuel + 1) listed a w :=
  wpAnyH_take hi hs hf hr hQ (Or.inr ⟨hg, rfl⟩) hS (hb ▸ h)

theorem cz {w : World} {b i : Nat} {cs : Array Value} {t : TypeId} {m : Nat × Nat} (h : w.heap[b]? = some (.cells cs t m)) : w.cell? ⟨b, i, none⟩ = cs[i]? := by
  unfold World.cell?
  simp [h]

theorem fz {w : World} {b : Nat} {cs : Array Value} {t : TypeId} (i : Nat) (h : w.heap[b]? = some (.cells cs t (0, 0))) : w.frozen? ⟨b, i, none⟩ = false := by
  simp [World.frozen?, h]

theorem cz2 {w : World} {R : Nat} {T : TypeId} {m : Nat × Nat} {a0 a1 : Value} (h : w.heap[R]? = some (.cells #[a0, a1] T m)) : w.cell? ⟨R, 0, none⟩ = some a0 ∧ w.cell? ⟨R, 1, none⟩ = some a1 :=
  ⟨cz h, cz h⟩

theorem fz2 {w : World} {R : Nat} {T : TypeId} {cs : Array Value} (h : w.heap[R]? = some (.cells cs T (0, 0))) : w.frozen? ⟨R, 0, none⟩ = false ∧ w.frozen? ⟨R, 1, none⟩ = false :=
  ⟨fz 0 h, fz 1 h⟩

theorem cz3 {w : World} {R : Nat} {T : TypeId} {m : Nat × Nat} {a0 a1 a2 : Value} (h : w.heap[R]? = some (.cells #[a0, a1, a2] T m)) : w.cell? ⟨R, 0, none⟩ = some a0 ∧ w.cell? ⟨R, 1, none⟩ = some a1 ∧ w.cell? ⟨R, 2, none⟩ = some a2 :=
  ⟨cz h, cz h, cz h⟩

theorem fz3 {w : World} {R : Nat} {T : TypeId} {cs : Array Value} (h : w.heap[R]? = some (.cells cs T (0, 0))) : w.frozen? ⟨R, 0, none⟩ = false ∧ w.frozen? ⟨R, 1, none⟩ = false ∧ w.frozen? ⟨R, 2, none⟩ = false :=
  ⟨fz 0 h, fz 1 h, fz 2 h⟩

theorem cz4 {w : World} {R : Nat} {T : TypeId} {m : Nat × Nat} {a0 a1 a2 a3 : Value} (h : w.heap[R]? = some (.cells #[a0, a1, a2, a3] T m)) : w.cell? ⟨R, 0, none⟩ = some a0 ∧ w.cell? ⟨R, 1, none⟩ = some a1 ∧ w.cell? ⟨R, 2, none⟩ = some a2 ∧ w.cell? ⟨R, 3, none⟩ = some a3 :=
  ⟨cz h, cz h, cz h, cz h⟩

theorem fz4 {w : World} {R : Nat} {T : TypeId} {cs : Array Value} (h : w.heap[R]? = some (.cells cs T (0, 0))) : w.frozen? ⟨R, 0, none⟩ = false ∧ w.frozen? ⟨R, 1, none⟩ = false ∧ w.frozen? ⟨R, 2, none⟩ = false ∧ w.frozen? ⟨R, 3, none⟩ = false :=
  ⟨fz 0 h, fz 1 h, fz 2 h, fz 3 h⟩

theorem cz5 {w : World} {R : Nat} {T : TypeId} {m : Nat × Nat} {a0 a1 a2 a3 a4 : Value} (h : w.heap[R]? = some (.cells #[a0, a1, a2, a3, a4] T m)) : w.cell? ⟨R, 0, none⟩ = some a0 ∧ w.cell? ⟨R, 1, none⟩ = some a1 ∧ w.cell? ⟨R, 2, none⟩ = some a2 ∧ w.cell? ⟨R, 3, none⟩ = some a3 ∧ w.cell? ⟨R, 4, none⟩ = some a4 :=
  ⟨cz h, cz h, cz h, cz h, cz h⟩

theorem fz5 {w : World} {R : Nat} {T : TypeId} {cs : Array Value} (h : w.heap[R]? = some (.cells cs T (0, 0))) : w.frozen? ⟨R, 0, none⟩ = false ∧ w.frozen? ⟨R, 1, none⟩ = false ∧ w.frozen? ⟨R, 2, none⟩ = false ∧ w.frozen? ⟨R, 3, none⟩ = false ∧ w.frozen? ⟨R, 4, none⟩ = false :=
  ⟨fz 0 h, fz 1 h, fz 2 h, fz 3 h, fz 4 h⟩

theorem cz6 {w : World} {R : Nat} {T : TypeId} {m : Nat × Nat} {a0 a1 a2 a3 a4 a5 : Value} (h : w.heap[R]? = some (.cells #[a0, a1, a2, a3, a4, a5] T m)) : w.cell? ⟨R, 0, none⟩ = some a0 ∧ w.cell? ⟨R, 1, none⟩ = some a1 ∧ w.cell? ⟨R, 2, none⟩ = some a2 ∧ w.cell? ⟨R, 3, none⟩ = some a3 ∧ w.cell? ⟨R, 4, none⟩ = some a4 ∧ w.cell? ⟨R, 5, none⟩ = some a5 :=
  ⟨cz h, cz h, cz h, cz h, cz h, cz h⟩

theorem fz6 {w : World} {R : Nat} {T : TypeId} {cs : Array Value} (h : w.heap[R]? = some (.cells cs T (0, 0))) : w.frozen? ⟨R, 0, none⟩ = false ∧ w.frozen? ⟨R, 1, none⟩ = false ∧ w.frozen? ⟨R, 2, none⟩ = false ∧ w.frozen? ⟨R, 3, none⟩ = false ∧ w.frozen? ⟨R, 4, none⟩ = false ∧ w.frozen? ⟨R, 5, none⟩ = false :=
  ⟨fz 0 h, fz 1 h, fz 2 h, fz 3 h, fz 4 h, fz 5 h⟩

theorem cz7 {w : World} {R : Nat} {T : TypeId} {m : Nat × Nat} {a0 a1 a2 a3 a4 a5 a6 : Value} (h : w.heap[R]? = some (.cells #[a0, a1, a2, a3, a4, a5, a6] T m)) : w.cell? ⟨R, 0, none⟩ = some a0 ∧ w.cell? ⟨R, 1, none⟩ = some a1 ∧ w.cell? ⟨R, 2, none⟩ = some a2 ∧ w.cell? ⟨R, 3, none⟩ = some a3 ∧ w.cell? ⟨R, 4, none⟩ = some a4 ∧ w.cell? ⟨R, 5, none⟩ = some a5 ∧ w.cell? ⟨R, 6, none⟩ = some a6 :=
  ⟨cz h, cz h, cz h, cz h, cz h, cz h, cz h⟩

theorem fz7 {w : World} {R : Nat} {T : TypeId} {cs : Array Value} (h : w.heap[R]? = some (.cells cs T (0, 0))) : w.frozen? ⟨R, 0, none⟩ = false ∧ w.frozen? ⟨R, 1, none⟩ = false ∧ w.frozen? ⟨R, 2, none⟩ = false ∧ w.frozen? ⟨R, 3, none⟩ = false ∧ w.frozen? ⟨R, 4, none⟩ = false ∧ w.frozen? ⟨R, 5, none⟩ = false ∧ w.frozen? ⟨R, 6, none⟩ = false :=
  ⟨fz 0 h, fz 1 h, fz 2 h, fz 3 h, fz 4 h, fz 5 h, fz 6 h⟩

theorem cz8 {w : World} {R : Nat} {T : TypeId} {m : Nat × Nat} {a0 a1 a2 a3 a4 a5 a6 a7 : Value} (h : w.heap[R]? = some (.cells #[a0, a1, a2, a3, a4, a5, a6, a7] T m)) : w.cell? ⟨R, 0, none⟩ = some a0 ∧ w.cell? ⟨R, 1, none⟩ = some a1 ∧ w.cell? ⟨R, 2, none⟩ = some a2 ∧ w.cell? ⟨R, 3, none⟩ = some a3 ∧ w.cell? ⟨R, 4, none⟩ = some a4 ∧ w.cell? ⟨R, 5, none⟩ = some a5 ∧ w.cell? ⟨R, 6, none⟩ = some a6 ∧ w.cell? ⟨R, 7, none⟩ = some a7 :=
  ⟨cz h, cz h, cz h, cz h, cz h, cz h, cz h, cz h⟩

theorem fz8 {w : World} {R : Nat} {T : TypeId} {cs : Array Value} (h : w.heap[R]? = some (.cells cs T (0, 0))) : w.frozen? ⟨R, 0, none⟩ = false ∧ w.frozen? ⟨R, 1, none⟩ = false ∧ w.frozen? ⟨R, 2, none⟩ = false ∧ w.frozen? ⟨R, 3, none⟩ = false ∧ w.frozen? ⟨R, 4, none⟩ = false ∧ w.frozen? ⟨R, 5, none⟩ = false ∧ w.frozen? ⟨R, 6, none⟩ = false ∧ w.frozen? ⟨R, 7, none⟩ = false :=
  ⟨fz 0 h, fz 1 h, fz 2 h, fz 3 h, fz 4 h, fz 5 h, fz 6 h, fz 7 h⟩

theorem cz9 {w : World} {R : Nat} {T : TypeId} {m : Nat × Nat} {a0 a1 a2 a3 a4 a5 a6 a7 a8 : Value} (h : w.heap[R]? = some (.cells #[a0, a1, a2, a3, a4, a5, a6, a7, a8] T m)) : w.cell? ⟨R, 0, none⟩ = some a0 ∧ w.cell? ⟨R, 1, none⟩ = some a1 ∧ w.cell? ⟨R, 2, none⟩ = some a2 ∧ w.cell? ⟨R, 3, none⟩ = some a3 ∧ w.cell? ⟨R, 4, none⟩ = some a4 ∧ w.cell? ⟨R, 5, none⟩ = some a5 ∧ w.cell? ⟨R, 6, none⟩ = some a6 ∧ w.cell? ⟨R, 7, none⟩ = some a7 ∧ w.cell? ⟨R, 8, none⟩ = some a8 :=
  ⟨cz h, cz h, cz h, cz h, cz h, cz h, cz h, cz h, cz h⟩

theorem fz9 {w : World} {R : Nat} {T : TypeId} {cs : Array Value} (h : w.heap[R]? = some (.cells cs T (0, 0))) : w.frozen? ⟨R, 0, none⟩ = false ∧ w.frozen? ⟨R, 1, none⟩ = false ∧ w.frozen? ⟨R, 2, none⟩ = false ∧ w.frozen? ⟨R, 3, none⟩ = false ∧ w.frozen? ⟨R, 4, none⟩ = false ∧ w.frozen? ⟨R, 5, none⟩ = false ∧ w.frozen? ⟨R, 6, none⟩ = false ∧ w.frozen? ⟨R, 7, none⟩ = false ∧ w.frozen? ⟨R, 8, none⟩ = false :=
  ⟨fz 0 h, fz 1 h, fz 2 h, fz 3 h, fz 4 h, fz 5 h, fz 6 h, fz 7 h, fz 8 h⟩

end Go.Proofs.Ytpaefllhngbimaa
