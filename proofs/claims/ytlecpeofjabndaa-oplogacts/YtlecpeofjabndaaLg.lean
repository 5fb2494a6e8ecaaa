/-
  Package oplog: how a log lies in memory; copied, has, isKind, New, Last.
-/
import Derived.Test.YtlecpeofjabndaaCl
namespace Go.Proofs.Ytlecpeofjabndaa
open Go.RowKit
set_option linter.unusedVariables false
set_option linter.unusedSimpArgs false

/-- A record: its stamp, its call. -/
structure Rec where
  a : Int
  k : Int
  kind : Int
  core : Int
  fd : Int
  off : Int
  num : Int
  p1 : ByteArray
  p2 : ByteArray
  dat : ByteArray

/-- Its cells. -/
def Rec.cs (r : Rec) : List Value := [.int .i64 r.a, .int .i64 r.k, .int .i64 r.kind, .int .i64 r.core, .int .i64 r.fd, .int .i64 r.off, .int .i64 r.num, .string r.p1, .string r.p2, .string r.dat]
/-- Its value. -/
abbrev Rec.val (r : Rec) : Value := .agg #[.int .i64 r.a, .int .i64 r.k, .int .i64 r.kind, .int .i64 r.core, .int .i64 r.fd, .int .i64 r.off, .int .i64 r.num, .string r.p1, .string r.p2, .string r.dat]
/-- Its texts are short. -/
def Rec.small (r : Rec) : Prop := r.p1.size ≤ 140737488351232 ∧ r.p2.size ≤ 140737488351232 ∧ r.dat.size ≤ 140737488351232

/-- Records as cells. -/
def rcs (R : List Rec) : List Value := R.flatMap Rec.cs

theorem rcs_length (R : List Rec) : (rcs R).length = R.length * 10 := by
  unfold rcs
  induction R with
  | nil => rfl
  | cons x R ih => simp [Rec.cs] at ih ⊢; omega

theorem rcs_append (R S : List Rec) : rcs (R ++ S) = rcs R ++ rcs S := by simp [rcs]

theorem rcs_get (R : List Rec) : ∀ (i : Nat) (r : Rec), R[i]? = some r → ∀ j, j < 10 → (rcs R)[i * 10 + j]? = r.cs[j]? := by
  induction R with
  | nil => intro i r h; simp at h
  | cons y R ih =>
    intro i r h j hj
    have e : rcs (y :: R) = y.cs ++ rcs R := by simp [rcs]
    have hl : y.cs.length = 10 := rfl
    cases i with
    | zero => simp at h; subst h; rw [e, List.getElem?_append_left (by omega)]; congr 1; omega
    | succ i =>
      rw [e, List.getElem?_append_right (by omega), hl, show (i + 1) * 10 + j - 10 = i * 10 + j by omega]
      exact ih i r (by simpa using h) j hj

theorem rcs_one (R : List Rec) : ∀ u ∈ rcs R, u.oneCell' = true := by
  intro u hu
  unfold rcs at hu
  rw [List.mem_flatMap] at hu
  obtain ⟨e, _, he⟩ := hu
  simp [Rec.cs] at he
  rcases he with rfl | rfl | rfl | rfl | rfl | rfl | rfl | rfl | rfl | rfl <;> rfl

/-- A row of records of the call's own. -/
def Rr (w : World) (H : Nat) (v : Value) (R : List Rec) : Prop := w.ownsRow H 57 10 v R.length (rcs R)

theorem Rr.nil (w : World) (H : Nat) : Rr w H (.slice none 0 0) [] := World.ownsRow_nil w H 57 10

theorem Rr.form {w : World} {H : Nat} {v : Value} {R : List Rec} (h : Rr w H v R) : (v = .slice none 0 0 ∧ R = []) ∨
    ∃ g cap cur, v = .slice (some ⟨g, 0, none⟩) R.length cap ∧ H ≤ g ∧ w.heap[g]? = some (.cells cur 57 (0, 0)) ∧ R.length ≤ cap ∧ cap ≤ maxLen ∧ cur.size = cap * 10 ∧ cur.toList.take (R.length * 10) = rcs R := by
  rcases h.2 with ⟨h1, h2⟩ | ⟨g, cap, cur, h1, h2, h3, h4, h5, h6, h7⟩
  · exact Or.inl ⟨h1, List.eq_nil_of_length_eq_zero h2⟩
  · exact Or.inr ⟨g, cap, cur, h1, h2, h3, h4, h5, h6, h7⟩

theorem Rr.block {w : World} {H : Nat} {v : Value} {R : List Rec} (h : Rr w H v R) : ∀ k, v.ownBlock = some k → H ≤ k ∧ k < w.heap.size := World.ownsRow.lt h

theorem Rr.same {w w' : World} {H : Nat} {v : Value} {R : List Rec} (h : Rr w H v R) (hk : ∀ k, v.ownBlock = some k → w'.heap[k]? = w.heap[k]?) : Rr w' H v R := by
  refine ⟨h.1, ?_⟩
  rcases h.2 with hn | ⟨g, cap, cur, rfl, hb, hgg, rest⟩
  · exact .inl hn
  · exact .inr ⟨g, cap, cur, rfl, hb, by rw [hk g rfl]; exact hgg, rest⟩

theorem Rr.kept {w w' : World} {H : Nat} {v : Value} {R : List Rec} {F : List Nat} (h : Rr w H v R) (k : Kept F w w') (hF : ∀ x ∈ F, v.ownBlock ≠ some x) : Rr w' H v R :=
  h.same fun x hx => k.block x (h.block x hx).2 (fun hm => hF x hm hx)

theorem Rr.low {w : World} {H H' : Nat} {v : Value} {R : List Rec} (h : Rr w H v R) (hH : H' ≤ H) : Rr w H' v R := by
  refine ⟨h.1, ?_⟩
  rcases h.2 with hn | ⟨g, cap, cur, rfl, hb, rest⟩
  · exact .inl hn
  · exact .inr ⟨g, cap, cur, rfl, by omega, rest⟩

/-- What the walks read: each record's ten cells. -/
theorem Rr.slice {w : World} {H : Nat} {v : Value} {R : List Rec} (h : Rr w H v R) : ∃ a cap, v = .slice a R.length cap ∧ R.length ≤ cap ∧ cap ≤ maxLen ∧ ∀ i (hi : i < R.length), ∃ g, a = some ⟨g, 0, none⟩ ∧ ∀ j u, (R[i]).cs[j]? = some u → w.cell? ⟨g, i * 10 + j, none⟩ = some u := by
  rcases h.form with ⟨h1, rfl⟩ | ⟨g, c, cur, h1, h2, h3, h4, h5, h6, h7⟩
  · exact ⟨none, 0, h1, by simp, by simp, fun i hi => by simp at hi⟩
  · refine ⟨_, c, h1, h4, h5, fun i hi => ⟨g, rfl, fun j u hu => ?_⟩⟩
    have hj : j < 10 := by
      rcases Nat.lt_or_ge j 10 with h | h
      · exact h
      · rw [List.getElem?_eq_none (by simpa [Rec.cs] using h)] at hu; cases hu
    have q := rcs_get R i _ (List.getElem?_eq_getElem hi) j hj
    rw [hu, ← h7, List.getElem?_take_of_lt (by omega)] at q
    have e : cur[i * 10 + j]? = some u := by simpa using q
    simp [World.cell?, h3, e]

theorem info57 : (Try.prog.info? 57).map (fun i => (i.zero, i.size, i.bytes)) = some (some (.agg #[.int .i64 0, .int .i64 0, .int .i64 0, .int .i64 0, .int .i64 0, .int .i64 0, .int .i64 0, .string ⟨#[]⟩, .string ⟨#[]⟩, .string ⟨#[]⟩]), 10, 104) := by kernel_rfl

theorem info_parts {t : TypeId} {z : Value} {s b : Nat} (h : (Try.prog.info? t).map (fun i => (i.zero, i.size, i.bytes)) = some (some z, s, b)) : ∃ i, Try.prog.info? t = some i ∧ i.zero = some z ∧ i.size = s ∧ i.bytes = b := by
  cases hi : Try.prog.info? t with
  | none => rw [hi] at h; cases h
  | some i0 => rw [hi] at h; have := Option.some.inj h; simp at this; exact ⟨i0, rfl, this.1, this.2.1, this.2.2⟩

theorem add_lit (b o j : Nat) : (⟨b, o, none⟩ : Addr).add j = ⟨b, o + j, none⟩ := by unfold Addr.add; split <;> simp_all

/-- An append of one record that lies in a block of its own. -/
theorem append_rec {w : World} {H : Nat} {v : Value} {R : List Rec} (h : Rr w H v R) (hH : H ≤ w.heap.size) (b : Nat) (r : Rec) (hb : ∀ j u, r.cs[j]? = some u → w.cell? ⟨b, j, none⟩ = some u) (hl : R.length + 1 ≤ 1000000) (ty : TypeId) :
    ∃ g cap w', (Builtin.append_ #[44, 44] ty #[v, .slice (some ⟨b, 0, none⟩) 1 1]).run Try.prog w = .ok (.slice (some ⟨g, 0, none⟩) (R.length + 1) cap) w' ∧ Rr w' H (.slice (some ⟨g, 0, none⟩) (R.length + 1) cap) (R ++ [r]) ∧ w.grownBy w' v.ownBlock ∧ (v.ownBlock = some g ∨ g = w.heap.size) ∧ g < w'.heap.size := by
  obtain ⟨i0, hi, hz0, hz1, hz2⟩ := info_parts info57
  have e1 : rcs [r] = r.cs := by simp [rcs]
  obtain ⟨g, cap, w', hr, h2, h3, h4, h5⟩ := run_append_lies (P := Try.prog) w 44 ty H 57 i0 _ 10 104 Try.underlying44 hi hz0 hz1 hz2 rfl (by omega) v R.length (rcs R) h ⟨b, 0, none⟩ 1 1 (rcs [r]) (by rw [rcs_length]; rfl)
    (fun j u hu => by rw [add_lit, Nat.zero_add]; exact hb j u (by rw [← e1]; exact hu))
    (rcs_one [r]) (by omega) (by unfold maxLen; omega) (by omega) hH w.heap.size rfl
  refine ⟨g, cap, w', hr, ?_, h3, h4, h5⟩
  unfold Rr
  rw [List.length_append, rcs_append]
  exact h2

theorem zero57 (w : World) : (zeroValue 57).run Try.prog w = .ok (.agg #[.int .i64 0, .int .i64 0, .int .i64 0, .int .i64 0, .int .i64 0, .int .i64 0, .int .i64 0, .string ⟨#[]⟩, .string ⟨#[]⟩, .string ⟨#[]⟩]) w := by kernel_rfl

/-- A box and one beside it. -/
theorem two (w : World) (A B : Array Value) (t u : TypeId) : ∃ U X, Hid ((w.alloc (.cells A t (0, 0))).alloc (.cells B u (0, 0)) = U ∧ w.heap.size = X) ∧ Hid (Kept [] w U ∧ w.heap.size ≤ X ∧ w.heap.size ≤ X + 1) ∧ Hid (U.heap[X]? = some (.cells A t (0, 0)) ∧ U.heap[X + 1]? = some (.cells B u (0, 0))) := by
  have k1 := (Kept.refl [] w).alloc (.cells A t (0, 0))
  have k2 := (Kept.refl [] (w.alloc (.cells A t (0, 0)))).alloc (.cells B u (0, 0))
  have e1 : (w.alloc (.cells A t (0, 0))).heap.size = w.heap.size + 1 := by simp
  refine ⟨_, _, ⟨rfl, rfl⟩, ⟨k1.trans k2 (by simp), Nat.le_refl _, by omega⟩, ?_, ?_⟩
  · rw [k2.block w.heap.size (by omega) (by simp)]; exact Go.heap_alloc_new _ _
  · rw [← e1]; exact Go.heap_alloc_new _ _

/-- Ten cells laid. -/
@[reducible] def lay10 (w : World) (R : Nat) (a b c d e f g h i j : Value) : World := (((((((((w.setCell ⟨R, 0, none⟩ a).setCell ⟨R, 1, none⟩ b).setCell ⟨R, 2, none⟩ c).setCell ⟨R, 3, none⟩ d).setCell ⟨R, 4, none⟩ e).setCell ⟨R, 5, none⟩ f).setCell ⟨R, 6, none⟩ g).setCell ⟨R, 7, none⟩ h).setCell ⟨R, 8, none⟩ i).setCell ⟨R, 9, none⟩ j

theorem block_lay {w : World} {R : Nat} {T : TypeId} {c0 c1 c2 c3 c4 c5 c6 c7 c8 c9 : Value} (h0 : w.heap[R]? = some (.cells #[c0, c1, c2, c3, c4, c5, c6, c7, c8, c9] T (0, 0))) (a b c d e f g h i j : Value) : (lay10 w R a b c d e f g h i j).heap[R]? = some (.cells #[a, b, c, d, e, f, g, h, i, j] T (0, 0)) := by
  unfold lay10
  rw [block_set (block_set (block_set (block_set (block_set (block_set (block_set (block_set (block_set (block_set h0 0 _) 1 _) 2 _) 3 _) 4 _) 5 _) 6 _) 7 _) 8 _) 9 _]
  simp

theorem kept_lay {w0 w : World} {F : List Nat} (h0 : Kept F w0 w) {R : Nat} (hR : R ∈ F ∨ w0.heap.size ≤ R) (a b c d e f g h i j : Value) : Kept F w0 (lay10 w R a b c d e f g h i j) :=
  (((((((((h0.setCell hR _).setCell hR _).setCell hR _).setCell hR _).setCell hR _).setCell hR _).setCell hR _).setCell hR _).setCell hR _).setCell hR _

theorem lay_other {w : World} {R Z : Nat} (hz : Z ≠ R) (a b c d e f g h i j : Value) : (lay10 w R a b c d e f g h i j).heap[Z]? = w.heap[Z]? := by
  unfold lay10
  rw [Below.heap_setCell _ _ _ _ hz, Below.heap_setCell _ _ _ _ hz, Below.heap_setCell _ _ _ _ hz, Below.heap_setCell _ _ _ _ hz, Below.heap_setCell _ _ _ _ hz, Below.heap_setCell _ _ _ _ hz, Below.heap_setCell _ _ _ _ hz, Below.heap_setCell _ _ _ _ hz, Below.heap_setCell _ _ _ _ hz, Below.heap_setCell _ _ _ _ hz]

set_option maxRecDepth 100000 in
set_option maxHeartbeats 4000000 in
theorem p_copied (a k kind core fd off num : Int) (p1 p2 dat : ByteArray) (hs : Rec.small ⟨a, k, kind, core, fd, off, num, p1, p2, dat⟩) (w : World) :
    Calls Try.prog 25 #[.agg #[.int .i64 a, .int .i64 k, .int .i64 kind, .int .i64 core, .int .i64 fd, .int .i64 off, .int .i64 num, .string p1, .string p2, .string dat]] w fun e w' => e = .returned (.agg #[.int .i64 a, .int .i64 k, .int .i64 kind, .int .i64 core, .int .i64 fd, .int .i64 off, .int .i64 num, .string p1, .string p2, .string dat]) ∧ Kept [] w w' := by
  have HS : Hid (p1.size ≤ 140737488351232 ∧ p2.size ≤ 140737488351232 ∧ dat.size ≤ 140737488351232) := hs
  clear hs
  obtain ⟨U, X, HU, HK, HB'⟩ := two w #[.int .i64 a, .int .i64 k, .int .i64 kind, .int .i64 core, .int .i64 fd, .int .i64 off, .int .i64 num, .string p1, .string p2, .string dat] #[.int .i64 0, .int .i64 0, .int .i64 0, .int .i64 0, .int .i64 0, .int .i64 0, .int .i64 0, .string ⟨#[]⟩, .string ⟨#[]⟩, .string ⟨#[]⟩] 57 57
  have HB : Hid (U.heap[X]? = some (.cells (Rec.cs ⟨a, k, kind, core, fd, off, num, p1, p2, dat⟩).toArray 57 (0, 0)) ∧ U.heap[X + 1]? = some (.cells #[.int .i64 0, .int .i64 0, .int .i64 0, .int .i64 0, .int .i64 0, .int .i64 0, .int .i64 0, .string ⟨#[]⟩, .string ⟨#[]⟩, .string ⟨#[]⟩] 57 (0, 0))) := HB'.out
  clear HB'
  go_enter Try.func25, Try.ntmps25
  go_upto_region 1 with fail
  rw [HU.out.1, HU.out.2]
  clear HU
  have c0 : U.cell? ⟨X, 7, none⟩ = some (.string p1) := cellB HB.out.1
  have z0 := frozen_of HB.out.1 7
  go_wp2_with fail
  refine (s_clone p1 _ HS.out.1).mono ?_
  rintro e w1 ⟨rfl, k0⟩
  have HB : Hid (_ ∧ _) := ⟨(k0.block _ (lt_of_heap HB.out.1) (by simp)).trans HB.out.1, (k0.block _ (lt_of_heap HB.out.2) (by simp)).trans HB.out.2⟩
  have HK : Hid (_ ∧ _ ∧ _) := ⟨HK.out.1.trans k0 (by simp), HK.out.2.1, HK.out.2.2⟩
  have c0 : w1.cell? ⟨X, 7, none⟩ = some (.string p1) := cellB HB.out.1
  have z0 := frozen_of HB.out.1 7
  clear k0
  go_upto_region 2 with fail
  obtain ⟨V0, HV0⟩ : ∃ V, Hid (w1.setCell ⟨X, 7, none⟩ (.string p1) = V) := ⟨_, rfl⟩
  have HB : Hid (V0.heap[X]? = some (.cells (Rec.cs ⟨a, k, kind, core, fd, off, num, p1, p2, dat⟩).toArray 57 (0, 0)) ∧ V0.heap[X + 1]? = some (.cells #[.int .i64 0, .int .i64 0, .int .i64 0, .int .i64 0, .int .i64 0, .int .i64 0, .int .i64 0, .string ⟨#[]⟩, .string ⟨#[]⟩, .string ⟨#[]⟩] 57 (0, 0))) := by
    rw [← HV0.out]
    refine ⟨?_, ?_⟩
    · rw [block_set HB.out.1]; rfl
    · rw [Below.heap_setCell _ _ _ _ (by show X + 1 ≠ X; omega)]; exact HB.out.2
  have HK : Hid (Kept [] w V0 ∧ w.heap.size ≤ X ∧ w.heap.size ≤ X + 1) := ⟨by rw [← HV0.out]; exact HK.out.1.setCell (Or.inr HK.out.2.1) _, HK.out.2.1, HK.out.2.2⟩
  rw [HV0.out]
  clear HV0 c0 z0
  have c1 : V0.cell? ⟨X, 8, none⟩ = some (.string p2) := cellB HB.out.1
  have z1 := frozen_of HB.out.1 8
  go_wp2_with fail
  refine (s_clone p2 _ HS.out.2.1).mono ?_
  rintro e w2 ⟨rfl, k1⟩
  have HB : Hid (_ ∧ _) := ⟨(k1.block _ (lt_of_heap HB.out.1) (by simp)).trans HB.out.1, (k1.block _ (lt_of_heap HB.out.2) (by simp)).trans HB.out.2⟩
  have HK : Hid (_ ∧ _ ∧ _) := ⟨HK.out.1.trans k1 (by simp), HK.out.2.1, HK.out.2.2⟩
  have c1 : w2.cell? ⟨X, 8, none⟩ = some (.string p2) := cellB HB.out.1
  have z1 := frozen_of HB.out.1 8
  clear k1
  go_upto_region 3 with fail
  obtain ⟨V1, HV1⟩ : ∃ V, Hid (w2.setCell ⟨X, 8, none⟩ (.string p2) = V) := ⟨_, rfl⟩
  have HB : Hid (V1.heap[X]? = some (.cells (Rec.cs ⟨a, k, kind, core, fd, off, num, p1, p2, dat⟩).toArray 57 (0, 0)) ∧ V1.heap[X + 1]? = some (.cells #[.int .i64 0, .int .i64 0, .int .i64 0, .int .i64 0, .int .i64 0, .int .i64 0, .int .i64 0, .string ⟨#[]⟩, .string ⟨#[]⟩, .string ⟨#[]⟩] 57 (0, 0))) := by
    rw [← HV1.out]
    refine ⟨?_, ?_⟩
    · rw [block_set HB.out.1]; rfl
    · rw [Below.heap_setCell _ _ _ _ (by show X + 1 ≠ X; omega)]; exact HB.out.2
  have HK : Hid (Kept [] w V1 ∧ w.heap.size ≤ X ∧ w.heap.size ≤ X + 1) := ⟨by rw [← HV1.out]; exact HK.out.1.setCell (Or.inr HK.out.2.1) _, HK.out.2.1, HK.out.2.2⟩
  rw [HV1.out]
  clear HV1 c1 z1
  have c2 : V1.cell? ⟨X, 9, none⟩ = some (.string dat) := cellB HB.out.1
  have z2 := frozen_of HB.out.1 9
  go_wp2_with fail
  refine (s_clone dat _ HS.out.2.2).mono ?_
  rintro e w3 ⟨rfl, k2⟩
  have HB : Hid (_ ∧ _) := ⟨(k2.block _ (lt_of_heap HB.out.1) (by simp)).trans HB.out.1, (k2.block _ (lt_of_heap HB.out.2) (by simp)).trans HB.out.2⟩
  have HK : Hid (_ ∧ _ ∧ _) := ⟨HK.out.1.trans k2 (by simp), HK.out.2.1, HK.out.2.2⟩
  have c2 : w3.cell? ⟨X, 9, none⟩ = some (.string dat) := cellB HB.out.1
  have z2 := frozen_of HB.out.1 9
  clear k2
  go_upto_region 4 with fail
  obtain ⟨V2, HV2⟩ : ∃ V, Hid (w3.setCell ⟨X, 9, none⟩ (.string dat) = V) := ⟨_, rfl⟩
  have HB : Hid (V2.heap[X]? = some (.cells (Rec.cs ⟨a, k, kind, core, fd, off, num, p1, p2, dat⟩).toArray 57 (0, 0)) ∧ V2.heap[X + 1]? = some (.cells #[.int .i64 0, .int .i64 0, .int .i64 0, .int .i64 0, .int .i64 0, .int .i64 0, .int .i64 0, .string ⟨#[]⟩, .string ⟨#[]⟩, .string ⟨#[]⟩] 57 (0, 0))) := by
    rw [← HV2.out]
    refine ⟨?_, ?_⟩
    · rw [block_set HB.out.1]; rfl
    · rw [Below.heap_setCell _ _ _ _ (by show X + 1 ≠ X; omega)]; exact HB.out.2
  have HK : Hid (Kept [] w V2 ∧ w.heap.size ≤ X ∧ w.heap.size ≤ X + 1) := ⟨by rw [← HV2.out]; exact HK.out.1.setCell (Or.inr HK.out.2.1) _, HK.out.2.1, HK.out.2.2⟩
  rw [HV2.out]
  clear HV2 c2 z2
  have q0 : V2.cell? ⟨X, 0, none⟩ = some (.int .i64 a) := cellB HB.out.1
  have q1 : V2.cell? ⟨X, 1, none⟩ = some (.int .i64 k) := cellB HB.out.1
  have q2 : V2.cell? ⟨X, 2, none⟩ = some (.int .i64 kind) := cellB HB.out.1
  have q3 : V2.cell? ⟨X, 3, none⟩ = some (.int .i64 core) := cellB HB.out.1
  have q4 : V2.cell? ⟨X, 4, none⟩ = some (.int .i64 fd) := cellB HB.out.1
  have q5 : V2.cell? ⟨X, 5, none⟩ = some (.int .i64 off) := cellB HB.out.1
  have q6 : V2.cell? ⟨X, 6, none⟩ = some (.int .i64 num) := cellB HB.out.1
  have q7 : V2.cell? ⟨X, 7, none⟩ = some (.string p1) := cellB HB.out.1
  have q8 : V2.cell? ⟨X, 8, none⟩ = some (.string p2) := cellB HB.out.1
  have q9 : V2.cell? ⟨X, 9, none⟩ = some (.string dat) := cellB HB.out.1
  have y0 : V2.cell? ⟨X + 1, 0, none⟩ = some (.int .i64 0) := cellB HB.out.2
  have f0 := frozen_of HB.out.2 0
  have y1 : V2.cell? ⟨X + 1, 1, none⟩ = some (.int .i64 0) := cellB HB.out.2
  have f1 := frozen_of HB.out.2 1
  have y2 : V2.cell? ⟨X + 1, 2, none⟩ = some (.int .i64 0) := cellB HB.out.2
  have f2 := frozen_of HB.out.2 2
  have y3 : V2.cell? ⟨X + 1, 3, none⟩ = some (.int .i64 0) := cellB HB.out.2
  have f3 := frozen_of HB.out.2 3
  have y4 : V2.cell? ⟨X + 1, 4, none⟩ = some (.int .i64 0) := cellB HB.out.2
  have f4 := frozen_of HB.out.2 4
  have y5 : V2.cell? ⟨X + 1, 5, none⟩ = some (.int .i64 0) := cellB HB.out.2
  have f5 := frozen_of HB.out.2 5
  have y6 : V2.cell? ⟨X + 1, 6, none⟩ = some (.int .i64 0) := cellB HB.out.2
  have f6 := frozen_of HB.out.2 6
  have y7 : V2.cell? ⟨X + 1, 7, none⟩ = some (.string ⟨#[]⟩) := cellB HB.out.2
  have f7 := frozen_of HB.out.2 7
  have y8 : V2.cell? ⟨X + 1, 8, none⟩ = some (.string ⟨#[]⟩) := cellB HB.out.2
  have f8 := frozen_of HB.out.2 8
  have y9 : V2.cell? ⟨X + 1, 9, none⟩ = some (.string ⟨#[]⟩) := cellB HB.out.2
  have f9 := frozen_of HB.out.2 9
  go_wp2_with fail
  (try simp only [Exit.inBlock, Exit.then])
  refine bodyPost_ret (results_cell_row rfl _ _ (X + 1) 57 #[.int .i64 a, .int .i64 k, .int .i64 kind, .int .i64 core, .int .i64 fd, .int .i64 off, .int .i64 num, .string p1, .string p2, .string dat] (0, 0) _ rfl (block_lay HB.out.2 _ _ _ _ _ _ _ _ _ _) Try.underlying57 rfl (by kernel_rfl)) rfl ?_
  exact ⟨rfl, kept_lay HK.out.1 (Or.inr HK.out.2.2) _ _ _ _ _ _ _ _ _ _⟩

end Go.Proofs.Ytlecpeofjabndaa
