/-
  What is found from the root on: the closure, the walk.
-/
import Derived.Test.YtgfdcnjnkljahaaDoorYc
namespace Go.Proofs.YtgfdcnjnkljahaaDoor
open Go.RowKit Go.Lib Go.Maps
set_option linter.unusedVariables false

/-- One number is found. -/
def finds (g : Int → Option Int) (num : Int) (s : List Bool × List Nat) : List Bool × List Nat :=
  match g num with
  | some i => if s.1.getD i.toNat true = false then (s.1.set i.toNat true, s.2 ++ [i.toNat]) else s
  | none => s

/-- Entries are found. -/
def findE (g : Int → Option Int) : List En → List Bool × List Nat → List Bool × List Nat
  | [], s => s
  | e :: E, s => findE g E (finds g e.2 s)

/-- An inode at a place. -/
def inoAt (L : List Ino) (i : Nat) : Ino := L.getD i ⟨0, false, [], ⟨#[]⟩⟩

/-- All that is found. -/
def walkF : Nat → List Ino → (Int → Option Int) → List Bool × List Nat → List Bool
  | 0, _, _, s => s.1
  | k + 1, L, g, s => if s.2.length = 0 then s.1 else walkF k L g (findE g (entsOfI (inoAt L (s.2.getD (s.2.length - 1) 0))) (s.1, s.2.take (s.2.length - 1)))

/-- Places that there are. -/
def Gok (g : Int → Option Int) (n : Nat) : Prop := ∀ k v, g k = some v → 0 ≤ v ∧ v < (n : Int)

/-- How many are not found yet, and how many wait. -/
def left (s : List Bool × List Nat) : Nat := 2 * s.1.countP (fun b => !b) + s.2.length

theorem countP_set {l : List Bool} {i : Nat} (hi : i < l.length) (h : l.getD i true = false) : (l.set i true).countP (fun b => !b) + 1 = l.countP (fun b => !b) := by
  induction l generalizing i with
  | nil => simp at hi
  | cons a l ih =>
    cases i with
    | zero =>
      have e : a = false := by simpa using h
      subst e
      simp
    | succ i =>
      rw [List.set_cons_succ, List.countP_cons, List.countP_cons, ← ih (by simpa using hi) (by simpa using h)]
      omega

theorem finds_left {g : Int → Option Int} {n : Nat} (hg : Gok g n) (num : Int) (s : List Bool × List Nat) (hs : s.1.length = n) : left (finds g num s) ≤ left s := by
  unfold finds
  cases e : g num with
  | none => exact Nat.le_refl _
  | some i =>
    dsimp only
    split
    · rename_i h
      have hi := hg _ _ e
      have := countP_set (l := s.1) (i := i.toNat) (by omega) h
      unfold left
      simp only [List.length_append, List.length_cons, List.length_nil]
      omega
    · exact Nat.le_refl _

/-- The walk's memory. -/
structure Ws (U w : World) (h : Wh) (p : Pl) (S : Sta) (n : Nat) (g1 g2 g3 : Int → Option Int) (P Q H : Nat) (v : Value) (s : List Bool × List Nat) : Prop where
  lk : Lk U w h p S n g1 g2 g3 s.1
  p1 : w.heap[P]? = some (.cells #[.pointer (some ⟨h.X, 0, none⟩)] 51 (0, 0))
  p2 : w.heap[Q]? = some (.cells #[v] 25 (0, 0))
  row : w.ownsRow H 3 1 v s.2.length (s.2.map fun i : Nat => Value.int .i64 (i : Int))
  lt : P < H ∧ Q < H ∧ h.X < H ∧ h.b1 < H ∧ h.b2 < H ∧ h.b3 < H ∧ h.bf < H
  ne : P ≠ Q ∧ Q ≠ h.X ∧ Q ≠ h.b1 ∧ Q ≠ h.b2 ∧ Q ≠ h.b3 ∧ Q ≠ h.bf ∧ P ≠ h.bf
  uq : U.heap.size ≤ Q ∧ U.heap.size ≤ H
  len : s.1.length = S.ino.length
  lf : left s ≤ 300
  ok : ∀ i ∈ s.2, i < S.ino.length

theorem infoI : (Tryd.prog.info? 3).map (fun i => (i.zero, i.size, i.bytes)) = some (some (.int .i64 0), 1, 8) := by kernel_rfl

/-- A number put behind others. -/
theorem append_num {w : World} {H : Nat} {v : Value} {A : List Nat} (h : w.ownsRow H 3 1 v A.length (A.map fun i : Nat => Value.int .i64 (i : Int))) (hH : H ≤ w.heap.size) (b : Nat) (i : Nat) (hb : w.heap[b]? = some (.cells #[.int .i64 (i : Int)] 3 (0, 0))) (hl : A.length ≤ 1000) :
    ∃ g cap w', (Builtin.append_ #[25, 25] 25 #[v, .slice (some ⟨b, 0, none⟩) 1 1]).run Tryd.prog w = .ok (.slice (some ⟨g, 0, none⟩) (A.length + 1) cap) w' ∧ w'.ownsRow H 3 1 (.slice (some ⟨g, 0, none⟩) (A.length + 1) cap) (A ++ [i]).length ((A ++ [i]).map fun i : Nat => Value.int .i64 (i : Int)) ∧ w.grownBy w' v.ownBlock ∧ (v.ownBlock = some g ∨ g = w.heap.size) ∧ g < w'.heap.size := by
  obtain ⟨i0, hi, hz0, hz1, hz2⟩ := info_parts infoI
  obtain ⟨g, cap, w', hr, h2, h3, h4, h5⟩ := run_append_lies (P := Tryd.prog) w 25 25 H 3 i0 _ 1 8 Tryd.underlying25 hi hz0 hz1 hz2 rfl (by omega) v A.length _ h ⟨b, 0, none⟩ 1 1 [.int .i64 (i : Int)] rfl
    (fun j u hu => by
      rw [add_lit, Nat.zero_add, cellB hb]
      simpa using hu)
    (by simp [Value.oneCell']) (by omega) (by unfold maxLen; omega) (by omega) hH w.heap.size rfl
  refine ⟨g, cap, w', hr, ?_, h3, h4, h5⟩
  rw [List.length_append, List.map_append]
  exact h2

theorem bcs_set (l : List Bool) (i : Nat) (b : Bool) : (bcs l).setIfInBounds i (.bool b) = bcs (l.set i b) := by
  apply Array.ext'
  simp [bcs, List.map_set]

/-- One is marked. -/
theorem Lk.mark {w0 w : World} {h : Wh} {p : Pl} {S : Sta} {n : Nat} {g1 g2 g3 : Int → Option Int} {fd : List Bool} (a : Lk w0 w h p S n g1 g2 g3 fd) (i : Nat) : Lk w0 (w.setCell ⟨h.bf, i, none⟩ (.bool true)) h p S n g1 g2 g3 (fd.set i true) := by
  have k : Kept [h.bf] w (w.setCell ⟨h.bf, i, none⟩ (.bool true)) := (Kept.refl _ _).setCell (Or.inl (by simp)) _
  exact ⟨a.kept.trans k (fun x hx => Or.inr (by simp at hx; subst hx; exact a.ok.x4)), a.ok, by rw [k.block _ (lt_of_heap a.blk) (by simpa using a.ok.d4)]; exact a.blk, a.m1.kept k (by simpa using a.ok.d7), a.m2.kept k (by simpa using a.ok.d9), a.m3.kept k (by simpa using a.ok.d0), by rw [Go.heap_setCell_same w h.bf i _ _ _ a.fnd, bcs_set]⟩

/-- Other blocks turn. -/
theorem Lk.others {F : List Nat} {w0 w w' : World} {h : Wh} {p : Pl} {S : Sta} {n : Nat} {g1 g2 g3 : Int → Option Int} {fd : List Bool} (a : Lk w0 w h p S n g1 g2 g3 fd) (k : Kept F w w') (hF : ∀ x ∈ F, w0.heap.size ≤ x ∧ x ≠ h.X ∧ x ≠ h.b1 ∧ x ≠ h.b2 ∧ x ≠ h.b3 ∧ x ≠ h.bf) : Lk w0 w' h p S n g1 g2 g3 fd :=
  ⟨a.kept.trans k (fun x hx => Or.inr (hF x hx).1), a.ok, by rw [k.block _ (lt_of_heap a.blk) (fun hx => (hF _ hx).2.1 rfl)]; exact a.blk, a.m1.kept k (fun hx => (hF _ hx).2.2.1 rfl), a.m2.kept k (fun hx => (hF _ hx).2.2.2.1 rfl), a.m3.kept k (fun hx => (hF _ hx).2.2.2.2.1 rfl), by rw [k.block _ (lt_of_heap a.fnd) (fun hx => (hF _ hx).2.2.2.2.2 rfl)]; exact a.fnd⟩

theorem row_same {w w' : World} {H : Nat} {v : Value} {n : Nat} {xs : List Value} (h : w.ownsRow H 3 1 v n xs) (hk : ∀ k, v.ownBlock = some k → w'.heap[k]? = w.heap[k]?) : w'.ownsRow H 3 1 v n xs := by
  refine ⟨h.1, ?_⟩
  rcases h.2 with hn | ⟨g, cap, cur, rfl, hb, hgg, rest⟩
  · exact .inl hn
  · exact .inr ⟨g, cap, cur, rfl, hb, by rw [hk g rfl]; exact hgg, rest⟩

theorem Ws.same {U w w' : World} {h : Wh} {p : Pl} {S : Sta} {n : Nat} {g1 g2 g3 : Int → Option Int} {P Q H : Nat} {v : Value} {s : List Bool × List Nat} (a : Ws U w h p S n g1 g2 g3 P Q H v s) (k : Kept [] w w') : Ws U w' h p S n g1 g2 g3 P Q H v s :=
  ⟨a.lk.same k, by rw [k.block _ (lt_of_heap a.p1) (by simp)]; exact a.p1, by rw [k.block _ (lt_of_heap a.p2) (by simp)]; exact a.p2, row_same a.row (fun x hx => k.block x (World.ownsRow.lt a.row x hx).2 (by simp)), a.lt, a.ne, a.uq, a.len, a.lf, a.ok⟩

theorem Ws.val {U w : World} {h : Wh} {p : Pl} {S : Sta} {n : Nat} {g1 g2 g3 : Int → Option Int} {P Q H : Nat} {v : Value} {s : List Bool × List Nat} (a : Ws U w h p S n g1 g2 g3 P Q H v s) : ∃ b c, v = .slice b s.2.length c ∧ s.2.length ≤ c ∧ ∀ i (hi : i < s.2.length), ∃ g, b = some ⟨g, 0, none⟩ ∧ w.cell? ⟨g, i, none⟩ = some (.int .i64 (s.2[i] : Int)) := by
  rcases a.row.2 with ⟨h1, h2⟩ | ⟨g, c, cur, h1, h2, h3, h4, h5, h6, h7⟩
  · exact ⟨none, 0, by rw [h1, h2], by omega, fun i hi => by omega⟩
  · refine ⟨_, c, h1, h4, fun i hi => ⟨g, rfl, ?_⟩⟩
    have e : (cur.toList.take (s.2.length * 1))[i]? = some (.int .i64 (s.2[i] : Int)) := by rw [h7]; simp [hi]
    rw [List.getElem?_take_of_lt (by omega)] at e
    have e2 : cur[i]? = some (.int .i64 (s.2[i] : Int)) := by simpa using e
    simp [World.cell?, h3, e2]

theorem Ws.push {U w w3 w4 : World} {h : Wh} {p : Pl} {S : Sta} {n : Nat} {g1 g2 g3 : Int → Option Int} {P Q H : Nat} {v v' : Value} {s : List Bool × List Nat} (a : Ws U w h p S n g1 g2 g3 P Q H v s) (i : Nat) (hi : i < S.ino.length) (hs : s.1.getD i true = false)
    (k3 : Kept [] (w.setCell ⟨h.bf, i, none⟩ (.bool true)) w3) (hg : w3.grownBy w4 v.ownBlock) (hr : w4.ownsRow H 3 1 v' (s.2 ++ [i]).length ((s.2 ++ [i]).map fun i : Nat => Value.int .i64 (i : Int))) (hv : ∀ k, v'.ownBlock = some k → H ≤ k) :
    Ws U (w4.setCell ⟨Q, 0, none⟩ v') h p S n g1 g2 g3 P Q H v' (s.1.set i true, s.2 ++ [i]) := by
  have hlt := a.lt
  have hne := a.ne
  have huq := a.uq
  have hvb : ∀ k, v.ownBlock = some k → H ≤ k := fun k hk => (World.ownsRow.lt a.row k hk).1
  have km : Kept [h.bf] w (w.setCell ⟨h.bf, i, none⟩ (.bool true)) := (Kept.refl _ _).setCell (Or.inl (by simp)) _
  have k4 : Kept (Q :: v.ownBlock.toList) (w.setCell ⟨h.bf, i, none⟩ (.bool true)) w4 := (k3.mono (by simp)).grown hg (fun k e => Or.inl (by simp [e]))
  have k5 : Kept (Q :: v.ownBlock.toList) (w.setCell ⟨h.bf, i, none⟩ (.bool true)) (w4.setCell ⟨Q, 0, none⟩ v') := k4.setCell (Or.inl (by simp)) _
  have hF : ∀ x ∈ Q :: v.ownBlock.toList, U.heap.size ≤ x ∧ x ≠ h.X ∧ x ≠ h.b1 ∧ x ≠ h.b2 ∧ x ≠ h.b3 ∧ x ≠ h.bf := by
    intro x hx
    rcases List.mem_cons.1 hx with rfl | hx
    · exact ⟨huq.1, hne.2.1, hne.2.2.1, hne.2.2.2.1, hne.2.2.2.2.1, hne.2.2.2.2.2.1⟩
    · have := hvb x (by simpa using hx)
      omega
  have q2 : (w.setCell ⟨h.bf, i, none⟩ (.bool true)).heap[Q]? = some (.cells #[v] 25 (0, 0)) := by rw [km.block Q (lt_of_heap a.p2) (by simp; exact hne.2.2.2.2.2.1)]; exact a.p2
  have hQ4 : w4.heap[Q]? = some (.cells #[v] 25 (0, 0)) := by
    have := k3.block Q (lt_of_heap q2) (by simp)
    rw [hg.block Q (by have := lt_of_heap q2; have := k3.size; omega) (fun e => by have := hvb Q e.symm; omega), this]; exact q2
  refine ⟨(a.lk.mark i).others k5 hF, ?_, ?_, ?_, hlt, hne, huq, by simpa using a.len, ?_, ?_⟩
  · rw [k5.block P (by have := lt_of_heap a.p1; have := km.size; omega) (fun hx => by
      rcases List.mem_cons.1 hx with rfl | hx
      · exact hne.1 rfl
      · have := hvb P (by simpa using hx); omega), km.block P (lt_of_heap a.p1) (by simp; exact hne.2.2.2.2.2.2)]
    exact a.p1
  · rw [Go.heap_setCell_same w4 Q 0 _ _ _ hQ4]; rfl
  · refine row_same hr (fun k hk => Below.heap_setCell _ _ _ _ (fun e => by have := hv k hk; simp at e; omega))
  · have := countP_set (l := s.1) (i := i) (by rw [a.len]; exact hi) hs
    have hl := a.lf
    unfold left at hl ⊢
    simp only [List.length_append, List.length_cons, List.length_nil]
    omega
  · intro x hx
    rcases List.mem_append.1 hx with hx | hx
    · exact a.ok x hx
    · simp at hx; subst hx; exact hi

theorem Lk.found {w0 w : World} {h : Wh} {p : Pl} {S : Sta} {n : Nat} {g1 g2 g3 : Int → Option Int} {fd : List Bool} (a : Lk w0 w h p S n g1 g2 g3 fd) (i : Nat) (hi : i < fd.length) : w.cell? ⟨h.bf, i, none⟩ = some (.bool (fd.getD i true)) := by
  rw [cellB a.fnd]; simp [bcs, hi]

set_option maxRecDepth 100000 in
set_option maxHeartbeats 16000000 in
theorem t_find {U w : World} {h : Wh} {p : Pl} {S : Sta} {n : Nat} {g1 g2 g3 : Int → Option Int} {P Q H : Nat} {v : Value} {s : List Bool × List Nat} (a : Ws U w h p S n g1 g2 g3 P Q H v s) (hg : Gok g1 S.ino.length) (num : Int) (hw : Wf num) (hH : H ≤ w.heap.size) :
    Calls Tryd.prog 41 #[.int .i64 num, .pointer (some ⟨P, 0, none⟩), .pointer (some ⟨Q, 0, none⟩)] w fun e w' => e = .returned (.tuple #[]) ∧ ∃ v', Ws U w' h p S n g1 g2 g3 P Q H v' (finds g1 num s) := by
  have c0 : w.cell? ⟨P, 0, none⟩ = some (.pointer (some ⟨h.X, 0, none⟩)) := cellB a.p1
  have c3 : w.cell? ⟨h.X, 3, none⟩ = some (.map (some h.b1)) := by rw [cellB a.lk.blk]; rfl
  have c6 : w.cell? ⟨h.X, 6, none⟩ = some (.slice (some ⟨h.bf, 0, none⟩) S.ino.length S.ino.length) := by rw [cellB a.lk.blk]; rfl
  have hl := a.lk.m1.look_ok hw
  have HA : Hid (Ws U w h p S n g1 g2 g3 P Q H v s) := a
  cases e : g1 num with
  | none =>
    have HE : Hid (finds g1 num s = s) := by show _ = _; unfold finds; rw [e]
    rw [e] at hl
    clear a e
    go_enter Tryd.func41, Tryd.ntmps41
    go_wp2_with fail
    go_end0
    exact ⟨rfl, _, by rw [HE.out]; exact HA.out⟩
  | some x =>
    obtain ⟨x0, x1⟩ := hg _ _ e
    obtain ⟨i, rfl⟩ : ∃ i : Nat, x = (i : Int) := ⟨x.toNat, by omega⟩
    have hi : i < S.ino.length := by omega
    have cf := a.lk.found i (by rw [a.len]; exact hi)
    rw [e] at hl
    cases hb : s.1.getD i true with
    | true =>
      have HE : Hid (finds g1 num s = s) := by show _ = _; unfold finds; rw [e]; dsimp only; rw [if_neg (by rw [Int.toNat_natCast, hb]; simp)]
      rw [hb] at cf
      clear a e hb
      go_enter Tryd.func41, Tryd.ntmps41
      go_wp2_with fail
      go_end0
      exact ⟨rfl, _, by rw [HE.out]; exact HA.out⟩
    | false =>
      have HE : Hid (finds g1 num s = (s.1.set i true, s.2 ++ [i])) := by show _ = _; unfold finds; rw [e]; dsimp only; rw [if_pos (by rw [Int.toNat_natCast, hb]), Int.toNat_natCast]
      rw [hb] at cf
      have HB : Hid (s.1.getD i true = false) := hb
      have cz : w.frozen? ⟨h.bf, i, none⟩ = false := by simp [World.frozen?, a.lk.fnd]
      obtain ⟨va, vc, rfl, -, -⟩ := a.val
      obtain ⟨W2, hW2⟩ : ∃ W2, w.setCell ⟨h.bf, i, none⟩ (.bool true) = W2 := ⟨_, rfl⟩
      have km : Kept [h.bf] w W2 := by rw [← hW2]; exact (Kept.refl _ _).setCell (Or.inl (by simp)) _
      have q2 : W2.heap[Q]? = some (.cells #[.slice va s.2.length vc] 25 (0, 0)) := by rw [km.block Q (lt_of_heap a.p2) (by simp; exact a.ne.2.2.2.2.2.1)]; exact a.p2
      have cq : W2.cell? ⟨Q, 0, none⟩ = some (.slice va s.2.length vc) := cellB q2
      have hvb : ∀ k, (Value.slice va s.2.length vc).ownBlock = some k → H ≤ k ∧ k < w.heap.size := fun k hk => World.ownsRow.lt a.row k hk
      have hr2 : W2.ownsRow H 3 1 (.slice va s.2.length vc) s.2.length (s.2.map fun i : Nat => Value.int .i64 (i : Int)) := row_same a.row (fun k hk => by
        rw [km.block k (hvb k hk).2 (by simp; intro e; have := (hvb k hk).1; have := a.lt; omega)])
      have k3 := (Kept.refl [] W2).alloc (.cells #[.int .i64 (i : Int)] 3 (0, 0))
      have hr3 := row_same (w' := W2.alloc (.cells #[.int .i64 (i : Int)] 3 (0, 0))) hr2 (fun k hk => k3.block k (by have := (hvb k hk).2; have := km.size; omega) (by simp))
      have hl1 : s.2.length ≤ 1000 := by have := a.lf; unfold left at this; omega
      obtain ⟨gn, cap, w4, hr4, h42, h43, h44, h45⟩ := append_num hr3 (by have := km.size; simp; omega) W2.heap.size i (Go.heap_alloc_new _ _) hl1
      have q4 : w4.heap[Q]? = some (.cells #[.slice va s.2.length vc] 25 (0, 0)) := by
        rw [h43.block Q (by have := lt_of_heap q2; simp; omega) (fun e => by have := (hvb Q e.symm).1; have := a.lt; omega), k3.block Q (lt_of_heap q2) (by simp)]; exact q2
      have cq4 : w4.cell? ⟨Q, 0, none⟩ = some (.slice va s.2.length vc) := cellB q4
      have cz4 : w4.frozen? ⟨Q, 0, none⟩ = false := by simp [World.frozen?, q4]
      have HN : Hid (Ws U (w4.setCell ⟨Q, 0, none⟩ (.slice (some ⟨gn, 0, none⟩) (s.2.length + 1) cap)) h p S n g1 g2 g3 P Q H (.slice (some ⟨gn, 0, none⟩) (s.2.length + 1) cap) (s.1.set i true, s.2 ++ [i])) := a.push i hi hb (by rw [hW2]; exact k3) h43 h42 (fun k hk => by
        simp [Value.ownBlock] at hk; subst hk
        rcases h44 with h44 | h44
        · exact (hvb _ h44).1
        · rw [h44]; have := km.size; simp; omega)
      have HAp : Hid (_) := hr4
      have HW2 : Hid (w.setCell ⟨h.bf, i, none⟩ (.bool true) = W2) := hW2
      clear a e hb hW2 km q2 hvb hr2 k3 hr3 hr4 h42 h43 h44 h45 q4 hl1
      go_enter Tryd.func41, Tryd.ntmps41
      go_upto_region 3 with fail
      rw [HW2.out]
      clear HW2 c0 c3 c6 cf cz hl
      go_wp2_with (at_builtin; refine wpList_append_run _ rfl _ _ 25 25 rfl _ _ rfl rfl _ _ HAp.out ?_)
      go_end0
      exact ⟨rfl, _, by rw [HE.out]; exact HN.out⟩

end Go.Proofs.YtgfdcnjnkljahaaDoor
