/-
  Package oplog: leastHead: whose rest begins with the least stamp.
-/
import Derived.Test.YtlecpeofjabndaaLb
namespace Go.Proofs.Ytlecpeofjabndaa
open Go.RowKit
set_option linter.unusedVariables false
set_option linter.unusedSimpArgs false

theorem s5_kept {w w' : World} {b c d e f i j k l m : Nat} {u1 u2 u3 u4 u5 : Value} (h : w.cell? ⟨b, i, none⟩ = some u1 ∧ w.cell? ⟨c, j, none⟩ = some u2 ∧ w.cell? ⟨d, k, none⟩ = some u3 ∧ w.cell? ⟨e, l, none⟩ = some u4 ∧ w.cell? ⟨f, m, none⟩ = some u5) (q : Kept [] w w') : w'.cell? ⟨b, i, none⟩ = some u1 ∧ w'.cell? ⟨c, j, none⟩ = some u2 ∧ w'.cell? ⟨d, k, none⟩ = some u3 ∧ w'.cell? ⟨e, l, none⟩ = some u4 ∧ w'.cell? ⟨f, m, none⟩ = some u5 :=
  ⟨q.cell h.1 (by simp), q.cell h.2.1 (by simp), q.cell h.2.2.1 (by simp), q.cell h.2.2.2.1 (by simp), q.cell h.2.2.2.2 (by simp)⟩

/-- Who of the first n begins with the least stamp? -/
def leastN (L : List (List Rec)) : Nat → Option Nat
  | 0 => none
  | n + 1 => match L[n]? with
    | some (r :: _) => match leastN L n with
      | none => some n
      | some m => match L[m]? with
        | some (h :: _) => if lessS r.a r.k h.a h.k then some n else some m
        | _ => some m
    | _ => leastN L n

theorem leastN_mem (L : List (List Rec)) : ∀ n m, n ≤ L.length → leastN L n = some m → m < n ∧ ∃ h t, L[m]? = some (h :: t) := by
  intro n
  induction n with
  | zero => intro m _ h; cases h
  | succ n ih =>
    intro m hn h
    unfold leastN at h
    rcases hx : L[n]? with _ | ⟨_ | ⟨r, t⟩⟩
    · rw [hx] at h; have := ih m (by omega) h; exact ⟨by omega, this.2⟩
    · rw [hx] at h; have := ih m (by omega) h; exact ⟨by omega, this.2⟩
    · rw [hx] at h
      dsimp only at h
      rcases hy : leastN L n with _ | q
      · rw [hy] at h; simp at h; subst h; exact ⟨by omega, r, t, hx⟩
      · rw [hy] at h
        obtain ⟨hq, h', t', e⟩ := ih q (by omega) hy
        dsimp only at h
        rw [e] at h
        dsimp only at h
        by_cases c : lessS r.a r.k h'.a h'.k = true
        · rw [if_pos c] at h; simp at h; subst h; exact ⟨by omega, r, t, hx⟩
        · rw [if_neg c] at h; simp at h; subst h; exact ⟨by omega, h', t', e⟩

theorem leastN_none (L : List (List Rec)) : ∀ n, n ≤ L.length → leastN L n = none → ∀ c, c < n → L[c]? = some [] := by
  intro n
  induction n with
  | zero => intro _ _ c hc; omega
  | succ n ih =>
    intro hn h c hc
    unfold leastN at h
    rcases hx : L[n]? with _ | ⟨_ | ⟨r, t⟩⟩
    · rw [List.getElem?_eq_none_iff] at hx; omega
    · rw [hx] at h
      by_cases e : c = n
      · subst e; exact hx
      · exact ih (by omega) h c (by omega)
    · rw [hx] at h
      dsimp only at h
      rcases hy : leastN L n with _ | q
      · rw [hy] at h; simp at h
      · rw [hy] at h
        obtain ⟨hq, h', t', e⟩ := leastN_mem L n q (by omega) hy
        dsimp only at h
        rw [e] at h
        dsimp only at h
        split at h <;> cases h

def leastI (L : List (List Rec)) (n : Nat) : Int := match leastN L n with
  | none => -1
  | some m => (m : Int)

/-- Rows of records, each to be read where it lies. -/
def RA (w : World) (V : List Value) (L : List (List Rec)) : Prop :=
  V.length = L.length ∧ ∀ c (hc : c < L.length) (hv : c < V.length), ∃ a cap, V[c] = .slice a (L[c]).length cap ∧ (L[c]).length ≤ cap ∧ cap ≤ maxLen ∧ (L[c]).length ≤ 256 ∧ (∀ r ∈ L[c], r.small) ∧ ∀ j (hj : j < (L[c]).length), ∃ b off, a = some ⟨b, off, none⟩ ∧ ∀ m u, ((L[c])[j]).cs[m]? = some u → w.cell? ⟨b, off + j * 10 + m, none⟩ = some u

theorem RA.kept {w w' : World} {V : List Value} {L : List (List Rec)} (h : RA w V L) (k : Kept [] w w') : RA w' V L :=
  ⟨h.1, fun c hc hv => by
    obtain ⟨a, cap, h1, h2, h3, h4, h5, h6⟩ := h.2 c hc hv
    exact ⟨a, cap, h1, h2, h3, h4, h5, fun j hj => by
      obtain ⟨b, off, e, h7⟩ := h6 j hj
      exact ⟨b, off, e, fun m u hu => k.cell (h7 m u hu) (by simp)⟩⟩⟩

/-- The head of a row that has one. -/
theorem RA.head {w : World} {V : List Value} {L : List (List Rec)} (h : RA w V L) {c : Nat} (hc : c < L.length) {r : Rec} {t : List Rec} (hr : L[c]? = some (r :: t)) : ∃ b off cap, V[c]? = some (.slice (some ⟨b, off, none⟩) (t.length + 1) cap) ∧ t.length + 1 ≤ cap ∧ cap ≤ maxLen ∧ t.length + 1 ≤ 256 ∧ r.small ∧ (∀ x ∈ t, x.small) ∧ (∀ m u, r.cs[m]? = some u → w.cell? ⟨b, off + m, none⟩ = some u) ∧ ∀ j (hj : j < t.length), ∀ m u, (t[j]).cs[m]? = some u → w.cell? ⟨b, off + 10 + j * 10 + m, none⟩ = some u := by
  have hv : c < V.length := by rw [h.1]; exact hc
  obtain ⟨a, cap, h1, h2, h3, h4, h5, h6⟩ := h.2 c hc hv
  have e : L[c] = r :: t := by rw [List.getElem?_eq_getElem hc] at hr; exact Option.some.inj hr
  rw [List.getElem?_eq_getElem hv, h1]
  generalize L[c] = l at *
  subst e
  obtain ⟨b, off, rfl, h7⟩ := h6 0 (by simp)
  refine ⟨b, off, cap, by simp, by simpa using h2, h3, by simpa using h4, h5 r (by simp), fun x hx => h5 x (by simp [hx]), fun m u hu => by simpa using h7 m u (by simpa using hu), fun j hj m u hu => ?_⟩
  obtain ⟨b', off', e2, h8⟩ := h6 (j + 1) (by simpa using hj)
  simp only [Option.some.injEq, Addr.mk.injEq, and_true] at e2
  obtain ⟨rfl, rfl⟩ := e2
  have := h8 m u (by simpa using hu)
  rw [show off + (j + 1) * 10 + m = off + 10 + j * 10 + m by omega] at this
  exact this

set_option maxRecDepth 100000 in
set_option maxHeartbeats 8000000 in
theorem p_least {w : World} {V : List Value} {L : List (List Rec)} (h : RA w V L) {B : Nat} (hB : w.heap[B]? = some (.cells V.toArray 44 (0, 0))) (hn : L.length ≤ 8) (n : Nat) (hnn : n = L.length) :
    Calls Try.prog 33 #[.slice (some ⟨B, 0, none⟩) n n] w fun e w' => e = .returned (.int .i64 (leastI L n)) ∧ Kept [] w w' := by
  subst hnn
  obtain ⟨n, hN⟩ : ∃ n, L.length = n := ⟨_, rfl⟩
  have HR : Hid (RA w V L ∧ w.heap[B]? = some (.cells V.toArray 44 (0, 0)) ∧ L.length = n) := ⟨h, hB, hN⟩
  rw [hN] at hn ⊢
  clear h hB hN
  go_enter Try.func33, Try.ntmps33
  go_wp2_with fail
  go_loopw [8, 3] (fun i l wr => ∃ j : Nat, i = .int .i64 (j : Int) ∧ l = .int .i64 (leastI L j) ∧ j ≤ n ∧ Hid (Kept [] w wr)) (fun i _ _ => (n - intOf i).toNat)
  case atStart => exact ⟨0, rfl, rfl, by omega, Kept.refl _ _⟩
  case round =>
    obtain ⟨j, rfl, rfl, hj, HJ⟩ := hrel
    by_cases hlt : j < n
    · have j0 : (0 : Int) ≤ (j : Int) := by omega
      have j1 : (j : Int) < (n : Int) := by omega
      have hjL : j < L.length := by rw [HR.out.2.2]; exact hlt
      have hjV : j < V.length := by rw [HR.out.1.1]; exact hjL
      have HRr : Hid (RA wr V L) := HR.out.1.kept HJ.out
      have HBr : Hid (wr.heap[B]? = some (.cells V.toArray 44 (0, 0))) := (HJ.out.block _ (lt_of_heap HR.out.2.1) (by simp)).trans HR.out.2.1
      rcases hx : L[j]? with _ | ⟨_ | ⟨r, t⟩⟩
      · rw [List.getElem?_eq_none_iff] at hx; omega
      · obtain ⟨a, cap, h1, -, -, -⟩ := HRr.out.2 j hjL hjV
        have hl : L[j] = [] := by rw [List.getElem?_eq_getElem hjL] at hx; exact Option.some.inj hx
        rw [hl] at h1
        have c0 : wr.cell? ⟨B, j, none⟩ = some (.slice a 0 cap) := by rw [cellB HBr.out]; simp [hjV, h1]
        have HE : Hid (leastI L (j + 1) = leastI L j) := by show _ = _; simp [leastI, leastN, hx]
        clear hx hl h1 hjL hjV
        go_wp2_with fail
        go_roundw
        case rel => exact ⟨j + 1, by go_num, by rw [HE.out], by omega, HJ.out⟩
        case measure => simp [intOf]; omega
      · obtain ⟨b, o, cap, h1, h2, h3, h4, h5, h6, h7, h8⟩ := HRr.out.head hjL hx
        have c0 : wr.cell? ⟨B, j, none⟩ = some (.slice (some ⟨b, o, none⟩) (t.length + 1) cap) := by rw [cellB HBr.out]; simpa using h1
        have q0 : wr.cell? ⟨b, o, none⟩ = some (.int .i64 r.a) := h7 0 _ rfl
        have q1 : wr.cell? ⟨b, o + 1, none⟩ = some (.int .i64 r.k) := h7 1 _ rfl
        obtain ⟨T, hT⟩ : ∃ T, t.length = T := ⟨_, rfl⟩
        rw [hT] at h2 h4 c0
        have hcv : cap ≤ 9223372036854775807 := by unfold maxLen at h3; omega
        have ht0 : ((T : Int) + 1 == 0) = false := by simp; omega
        have ht1 : (((T + 1 : Nat) : Int) == 0) = false := by simp; omega
        have ht2 : ¬ (T : Int) + 1 = 0 := by omega
        rcases hy : leastN L j with _ | m
        · have HE : Hid (leastI L (j + 1) = (j : Int)) := by show _ = _; simp [leastI, leastN, hx, hy]
          have hI : leastI L j = -1 := by simp [leastI, hy]
          rw [hI]
          clear hx hy hI h1 h3 h5 h6 h7 h8 hjL hjV hT
          go_upto_region 6 with fail
          refine wp_region_held_drew (S := fun w' => True) (by kernel_rfl) ?_ (fun hHeld => ?_)
          · trivial
          refine wpAnyH_take (i := 0) (v := ?vn0) rfl (by kernel_rfl) (by kernel_rfl) (by kernel_rfl) (fun _ _ _ h => h) (Or.inl ⟨by rfl, ?hyn0⟩) (by assumption) ?_
          case hyn0 =>
            intro w hSw
            (try dsimp only at hSw)
            go_simp
            try with_reducible rfl
          try simp only [Act.put, List.setIfInBounds_toArray, List.set_cons_zero, List.set_cons_succ, List.getElem_toArray, List.getElem_cons_zero, List.getElem_cons_succ]
          refine wpAnyH_take (i := 1) (v := ?vn1) rfl (by kernel_rfl) (by kernel_rfl) (by kernel_rfl) (fun _ _ _ h => h) (Or.inl ⟨by rfl, ?hyn1⟩) (by assumption) ?_
          case hyn1 =>
            intro w hSw
            (try dsimp only at hSw)
            go_simp
            try with_reducible rfl
          try simp only [Act.put, List.setIfInBounds_toArray, List.set_cons_zero, List.set_cons_succ, List.getElem_toArray, List.getElem_cons_zero, List.getElem_cons_succ]
          refine wpAnyH_take (i := 2) (v := ?vn2) rfl (by kernel_rfl) (by kernel_rfl) (by kernel_rfl) (fun _ _ _ h => h) (Or.inl ⟨by rfl, ?hyn2⟩) (by assumption) ?_
          case hyn2 =>
            intro w hSw
            (try dsimp only at hSw)
            go_simp
            try with_reducible rfl
          try simp only [Act.put, List.setIfInBounds_toArray, List.set_cons_zero, List.set_cons_succ, List.getElem_toArray, List.getElem_cons_zero, List.getElem_cons_succ]
          refine wpAnyH_take (i := 3) (v := undef) rfl (by kernel_rfl) (by kernel_rfl) (by kernel_rfl) (fun _ _ _ h => h) (Or.inr ⟨by rfl, rfl⟩) (by assumption) ?_
          try simp only [Act.put, List.setIfInBounds_toArray, List.set_cons_zero, List.set_cons_succ, List.getElem_toArray, List.getElem_cons_zero, List.getElem_cons_succ]
          refine wpAnyH_take (i := 4) (v := undef) rfl (by kernel_rfl) (by kernel_rfl) (by kernel_rfl) (fun _ _ _ h => h) (Or.inr ⟨by rfl, rfl⟩) (by assumption) ?_
          try simp only [Act.put, List.setIfInBounds_toArray, List.set_cons_zero, List.set_cons_succ, List.getElem_toArray, List.getElem_cons_zero, List.getElem_cons_succ]
          refine wpAnyH_take (i := 5) (v := undef) rfl (by kernel_rfl) (by kernel_rfl) (by kernel_rfl) (fun _ _ _ h => h) (Or.inr ⟨by rfl, rfl⟩) (by assumption) ?_
          try simp only [Act.put, List.setIfInBounds_toArray, List.set_cons_zero, List.set_cons_succ, List.getElem_toArray, List.getElem_cons_zero, List.getElem_cons_succ]
          refine wpAnyH_take (i := 6) (v := undef) rfl (by kernel_rfl) (by kernel_rfl) (by kernel_rfl) (fun _ _ _ h => h) (Or.inr ⟨by rfl, rfl⟩) (by assumption) ?_
          try simp only [Act.put, List.setIfInBounds_toArray, List.set_cons_zero, List.set_cons_succ, List.getElem_toArray, List.getElem_cons_zero, List.getElem_cons_succ]
          refine wpAnyH_take (i := 7) (v := undef) rfl (by kernel_rfl) (by kernel_rfl) (by kernel_rfl) (fun _ _ _ h => h) (Or.inr ⟨by rfl, rfl⟩) (by assumption) ?_
          try simp only [Act.put, List.setIfInBounds_toArray, List.set_cons_zero, List.set_cons_succ, List.getElem_toArray, List.getElem_cons_zero, List.getElem_cons_succ]
          refine wpAnyH_take (i := 8) (v := undef) rfl (by kernel_rfl) (by kernel_rfl) (by kernel_rfl) (fun _ _ _ h => h) (Or.inr ⟨by rfl, rfl⟩) (by assumption) ?_
          try simp only [Act.put, List.setIfInBounds_toArray, List.set_cons_zero, List.set_cons_succ, List.getElem_toArray, List.getElem_cons_zero, List.getElem_cons_succ]
          refine wpAnyH_take (i := 9) (v := undef) rfl (by kernel_rfl) (by kernel_rfl) (by kernel_rfl) (fun _ _ _ h => h) (Or.inr ⟨by rfl, rfl⟩) (by assumption) ?_
          try simp only [Act.put, List.setIfInBounds_toArray, List.set_cons_zero, List.set_cons_succ, List.getElem_toArray, List.getElem_cons_zero, List.getElem_cons_succ]
          refine wpAnyH_take (i := 10) (v := undef) rfl (by kernel_rfl) (by kernel_rfl) (by kernel_rfl) (fun _ _ _ h => h) (Or.inr ⟨by rfl, rfl⟩) (by assumption) ?_
          try simp only [Act.put, List.setIfInBounds_toArray, List.set_cons_zero, List.set_cons_succ, List.getElem_toArray, List.getElem_cons_zero, List.getElem_cons_succ]
          refine wpAnyH_take (i := 11) (v := undef) rfl (by kernel_rfl) (by kernel_rfl) (by kernel_rfl) (fun _ _ _ h => h) (Or.inr ⟨by rfl, rfl⟩) (by assumption) ?_
          try simp only [Act.put, List.setIfInBounds_toArray, List.set_cons_zero, List.set_cons_succ, List.getElem_toArray, List.getElem_cons_zero, List.getElem_cons_succ]
          refine wpAnyH_take (i := 12) (v := undef) rfl (by kernel_rfl) (by kernel_rfl) (by kernel_rfl) (fun _ _ _ h => h) (Or.inr ⟨by rfl, rfl⟩) (by assumption) ?_
          try simp only [Act.put, List.setIfInBounds_toArray, List.set_cons_zero, List.set_cons_succ, List.getElem_toArray, List.getElem_cons_zero, List.getElem_cons_succ]
          refine wpAnyH_take (i := 13) (v := undef) rfl (by kernel_rfl) (by kernel_rfl) (by kernel_rfl) (fun _ _ _ h => h) (Or.inr ⟨by rfl, rfl⟩) (by assumption) ?_
          try simp only [Act.put, List.setIfInBounds_toArray, List.set_cons_zero, List.set_cons_succ, List.getElem_toArray, List.getElem_cons_zero, List.getElem_cons_succ]
          refine wpAnyH_take (i := 14) (v := undef) rfl (by kernel_rfl) (by kernel_rfl) (by kernel_rfl) (fun _ _ _ h => h) (Or.inr ⟨by rfl, rfl⟩) (by assumption) ?_
          try simp only [Act.put, List.setIfInBounds_toArray, List.set_cons_zero, List.set_cons_succ, List.getElem_toArray, List.getElem_cons_zero, List.getElem_cons_succ]
          refine wpAnyH_take (i := 15) (v := ?vn15) rfl (by kernel_rfl) (by kernel_rfl) (by kernel_rfl) (fun _ _ _ h => h) (Or.inl ⟨by rfl, ?hyn15⟩) (by assumption) ?_
          case hyn15 =>
            intro w hSw
            (try dsimp only at hSw)
            go_simp
            try with_reducible rfl
          try simp only [Act.put, List.setIfInBounds_toArray, List.set_cons_zero, List.set_cons_succ, List.getElem_toArray, List.getElem_cons_zero, List.getElem_cons_succ]
          refine wpAnyH_done (by kernel_rfl) ?_ _
          go_wp2_with fail
          go_roundw
          case rel => exact ⟨j + 1, by go_num, by rw [HE.out], by omega, HJ.out.drew⟩
          case measure => simp [intOf]; omega
        · obtain ⟨hm, h, t', hz⟩ := leastN_mem L j m (by omega) hy
          have hmL : m < L.length := by omega
          obtain ⟨b2, o2, c2, e1, e2, e3, e4, -, -, e7, -⟩ := HRr.out.head hmL hz
          have c1 : wr.cell? ⟨B, m, none⟩ = some (.slice (some ⟨b2, o2, none⟩) (t'.length + 1) c2) := by rw [cellB HBr.out]; simpa using e1
          obtain ⟨l2, hl2⟩ : ∃ l2, t'.length + 1 = l2 := ⟨_, rfl⟩
          rw [hl2] at c1 e2 e4
          have hl3 : 0 < l2 := by omega
          have hc2 : c2 ≤ 9223372036854775807 := by unfold maxLen at e3; omega
          have HS : Hid (wr.cell? ⟨b, o, none⟩ = some (.int .i64 r.a) ∧ wr.cell? ⟨b, o + 1, none⟩ = some (.int .i64 r.k) ∧ wr.cell? ⟨B, m, none⟩ = some (.slice (some ⟨b2, o2, none⟩) l2 c2) ∧ wr.cell? ⟨b2, o2, none⟩ = some (.int .i64 h.a) ∧ wr.cell? ⟨b2, o2 + 1, none⟩ = some (.int .i64 h.k)) := ⟨q0, q1, c1, e7 0 _ rfl, e7 1 _ rfl⟩
          have hI : leastI L j = (m : Int) := by simp [leastI, hy]
          rw [hI]
          have m0 : (0 : Int) ≤ (m : Int) := by omega
          have m1 : (m : Int) < (n : Int) := by omega
          have m2 : ¬ (m : Int) < 0 := by omega
          have m3 : decide ((m : Int) < 0) = false := decide_eq_false m2
          rcases hb : lessS r.a r.k h.a h.k with _ | _
          · have HE : Hid (leastI L (j + 1) = (m : Int)) := by show _ = _; simp [leastI, leastN, hx, hy, hz, hb]
            have HLs : Hid (lessS r.a r.k h.a h.k = false) := hb
            clear hx hy hI h1 h3 h5 h6 h7 h8 hjL hjV hT hz e1 e3 e7 hmL hl2 hb c1
            go_upto_region 6 with fail
            refine wp_region_held_drew (S := fun w' => w'.cell? ⟨b, o, none⟩ = some (.int .i64 r.a) ∧ w'.cell? ⟨b, o + 1, none⟩ = some (.int .i64 r.k) ∧ w'.cell? ⟨B, m, none⟩ = some (.slice (some ⟨b2, o2, none⟩) l2 c2) ∧ w'.cell? ⟨b2, o2, none⟩ = some (.int .i64 h.a) ∧ w'.cell? ⟨b2, o2 + 1, none⟩ = some (.int .i64 h.k)) (by kernel_rfl) ?_ (fun hHeld => ?_)
            · exact HS.out
            refine wpAnyH_take (i := 0) (v := ?vm0) rfl (by kernel_rfl) (by kernel_rfl) (by kernel_rfl) (fun _ _ _ h => h) (Or.inl ⟨by rfl, ?hym0⟩) (by assumption) ?_
            case hym0 =>
              intro w hSw
              (try dsimp only at hSw)
              go_simp
              try with_reducible rfl
            try simp only [Act.put, List.setIfInBounds_toArray, List.set_cons_zero, List.set_cons_succ, List.getElem_toArray, List.getElem_cons_zero, List.getElem_cons_succ]
            refine wpAnyH_take (i := 1) (v := ?vm1) rfl (by kernel_rfl) (by kernel_rfl) (by kernel_rfl) (fun _ _ _ h => h) (Or.inl ⟨by rfl, ?hym1⟩) (by assumption) ?_
            case hym1 =>
              intro w hSw
              (try dsimp only at hSw)
              go_simp
              try with_reducible rfl
            try simp only [Act.put, List.setIfInBounds_toArray, List.set_cons_zero, List.set_cons_succ, List.getElem_toArray, List.getElem_cons_zero, List.getElem_cons_succ]
            refine wpAnyH_take (i := 2) (v := ?vm2) rfl (by kernel_rfl) (by kernel_rfl) (by kernel_rfl) (fun _ _ _ h => h) (Or.inl ⟨by rfl, ?hym2⟩) (by assumption) ?_
            case hym2 =>
              intro w hSw
              (try dsimp only at hSw)
              go_simp
              try with_reducible rfl
            try simp only [Act.put, List.setIfInBounds_toArray, List.set_cons_zero, List.set_cons_succ, List.getElem_toArray, List.getElem_cons_zero, List.getElem_cons_succ]
            refine wpAnyH_take (i := 3) (v := ?vm3) rfl (by kernel_rfl) (by kernel_rfl) (by kernel_rfl) (fun _ _ _ h => h) (Or.inl ⟨by rfl, ?hym3⟩) (by assumption) ?_
            case hym3 =>
              intro w hSw
              (try dsimp only at hSw)
              go_simp
              try with_reducible rfl
            try simp only [Act.put, List.setIfInBounds_toArray, List.set_cons_zero, List.set_cons_succ, List.getElem_toArray, List.getElem_cons_zero, List.getElem_cons_succ]
            refine wpAnyH_take (i := 4) (v := ?vm4) rfl (by kernel_rfl) (by kernel_rfl) (by kernel_rfl) (fun _ _ _ h => h) (Or.inl ⟨by rfl, ?hym4⟩) (by assumption) ?_
            case hym4 =>
              intro w hSw
              (try dsimp only at hSw)
              go_simp
              try with_reducible rfl
            try simp only [Act.put, List.setIfInBounds_toArray, List.set_cons_zero, List.set_cons_succ, List.getElem_toArray, List.getElem_cons_zero, List.getElem_cons_succ]
            refine wpAnyH_take (i := 5) (v := ?vm5) rfl (by kernel_rfl) (by kernel_rfl) (by kernel_rfl) (fun _ _ _ h => h) (Or.inl ⟨by rfl, ?hym5⟩) (by assumption) ?_
            case hym5 =>
              intro w hSw
              (try dsimp only at hSw)
              go_simp
              try with_reducible rfl
            try simp only [Act.put, List.setIfInBounds_toArray, List.set_cons_zero, List.set_cons_succ, List.getElem_toArray, List.getElem_cons_zero, List.getElem_cons_succ]
            refine wpAnyH_take (i := 6) (v := ?vm6) rfl (by kernel_rfl) (by kernel_rfl) (by kernel_rfl) (fun _ _ _ h => h) (Or.inl ⟨by rfl, ?hym6⟩) (by assumption) ?_
            case hym6 =>
              intro w hSw
              (try dsimp only at hSw)
              go_simp
              try with_reducible rfl
            try simp only [Act.put, List.setIfInBounds_toArray, List.set_cons_zero, List.set_cons_succ, List.getElem_toArray, List.getElem_cons_zero, List.getElem_cons_succ]
            refine wpAnyH_take (i := 7) (v := ?vm7) rfl (by kernel_rfl) (by kernel_rfl) (by kernel_rfl) (fun _ _ _ h => h) (Or.inl ⟨by rfl, ?hym7⟩) (by assumption) ?_
            case hym7 =>
              intro w hSw
              (try dsimp only at hSw)
              go_simp
              try with_reducible rfl
            try simp only [Act.put, List.setIfInBounds_toArray, List.set_cons_zero, List.set_cons_succ, List.getElem_toArray, List.getElem_cons_zero, List.getElem_cons_succ]
            refine wpAnyH_take (i := 8) (v := ?vm8) rfl (by kernel_rfl) (by kernel_rfl) (by kernel_rfl) (fun _ _ _ h => h) (Or.inl ⟨by rfl, ?hym8⟩) (by assumption) ?_
            case hym8 =>
              intro w hSw
              (try dsimp only at hSw)
              go_simp
              try with_reducible rfl
            try simp only [Act.put, List.setIfInBounds_toArray, List.set_cons_zero, List.set_cons_succ, List.getElem_toArray, List.getElem_cons_zero, List.getElem_cons_succ]
            refine wpAnyH_take (i := 9) (v := ?vm9) rfl (by kernel_rfl) (by kernel_rfl) (by kernel_rfl) (fun _ _ _ h => h) (Or.inl ⟨by rfl, ?hym9⟩) (by assumption) ?_
            case hym9 =>
              intro w hSw
              (try dsimp only at hSw)
              go_simp
              try with_reducible rfl
            try simp only [Act.put, List.setIfInBounds_toArray, List.set_cons_zero, List.set_cons_succ, List.getElem_toArray, List.getElem_cons_zero, List.getElem_cons_succ]
            refine wpAnyH_take (i := 10) (v := ?vm10) rfl (by kernel_rfl) (by kernel_rfl) (by kernel_rfl) (fun _ _ _ h => h) (Or.inl ⟨by rfl, ?hym10⟩) (by assumption) ?_
            case hym10 =>
              intro w hSw
              (try dsimp only at hSw)
              go_simp
              try with_reducible rfl
            try simp only [Act.put, List.setIfInBounds_toArray, List.set_cons_zero, List.set_cons_succ, List.getElem_toArray, List.getElem_cons_zero, List.getElem_cons_succ]
            refine wpAnyH_take (i := 11) (v := ?vm11) rfl (by kernel_rfl) (by kernel_rfl) (by kernel_rfl) (fun _ _ _ h => h) (Or.inl ⟨by rfl, ?hym11⟩) (by assumption) ?_
            case hym11 =>
              intro w hSw
              (try dsimp only at hSw)
              go_simp
              try with_reducible rfl
            try simp only [Act.put, List.setIfInBounds_toArray, List.set_cons_zero, List.set_cons_succ, List.getElem_toArray, List.getElem_cons_zero, List.getElem_cons_succ]
            refine wpAnyH_take (i := 12) (v := ?vm12) rfl (by kernel_rfl) (by kernel_rfl) (by kernel_rfl) (fun _ _ _ h => h) (Or.inl ⟨by rfl, ?hym12⟩) (by assumption) ?_
            case hym12 =>
              intro w hSw
              (try dsimp only at hSw)
              go_simp
              try with_reducible rfl
            try simp only [Act.put, List.setIfInBounds_toArray, List.set_cons_zero, List.set_cons_succ, List.getElem_toArray, List.getElem_cons_zero, List.getElem_cons_succ]
            refine wpAnyH_take (i := 13) (v := ?vm13) rfl (by kernel_rfl) (by kernel_rfl) (by kernel_rfl) (fun _ _ _ h => h) (Or.inl ⟨by rfl, ?hym13⟩) (by assumption) ?_
            case hym13 =>
              intro w hSw
              (try dsimp only at hSw)
              go_simp
              try with_reducible rfl
            try simp only [Act.put, List.setIfInBounds_toArray, List.set_cons_zero, List.set_cons_succ, List.getElem_toArray, List.getElem_cons_zero, List.getElem_cons_succ]
            refine wpAnyH_ready (rs := [14]) (by kernel_rfl) (by simp) ?_
            refine AllReadyH.cons rfl (fun K hK => ?_) AllReadyH.nil
            go_simp
            refine (p_less r.a r.k h.a h.k _).mono ?_
            rintro e w5 ⟨rfl, k5⟩
            have HK5 : Hid (Kept [] wr w5) := (Kept.refl [] wr).drew.trans k5 (by simp)
            clear k5
            go_wp2_with fail
            refine hK.out _ _ ?_ (fun hHeld => ?_)
            · exact s5_kept HS.out HK5.out
            clear hK K
            try simp only [Act.put, List.setIfInBounds_toArray, List.set_cons_zero, List.set_cons_succ, List.getElem_toArray, List.getElem_cons_zero, List.getElem_cons_succ]
            refine wpAnyH_take (i := 15) (v := ?vm15) rfl (by kernel_rfl) (by kernel_rfl) (by kernel_rfl) (fun _ _ _ h => h) (Or.inl ⟨by rfl, ?hym15⟩) (by assumption) ?_
            case hym15 =>
              intro w hSw
              (try dsimp only at hSw)
              go_simp
              try with_reducible rfl
            try simp only [Act.put, List.setIfInBounds_toArray, List.set_cons_zero, List.set_cons_succ, List.getElem_toArray, List.getElem_cons_zero, List.getElem_cons_succ]
            refine wpAnyH_done (by kernel_rfl) ?_ _
            rw [HLs.out]
            go_wp2_with fail
            go_roundw
            case rel => exact ⟨j + 1, by go_num, by rw [HE.out], by omega, HJ.out.trans HK5.out (by simp)⟩
            case measure => simp [intOf]; omega
          · have HE : Hid (leastI L (j + 1) = (j : Int)) := by show _ = _; simp [leastI, leastN, hx, hy, hz, hb]
            have HLs : Hid (lessS r.a r.k h.a h.k = true) := hb
            clear hx hy hI h1 h3 h5 h6 h7 h8 hjL hjV hT hz e1 e3 e7 hmL hl2 hb c1
            go_upto_region 6 with fail
            refine wp_region_held_drew (S := fun w' => w'.cell? ⟨b, o, none⟩ = some (.int .i64 r.a) ∧ w'.cell? ⟨b, o + 1, none⟩ = some (.int .i64 r.k) ∧ w'.cell? ⟨B, m, none⟩ = some (.slice (some ⟨b2, o2, none⟩) l2 c2) ∧ w'.cell? ⟨b2, o2, none⟩ = some (.int .i64 h.a) ∧ w'.cell? ⟨b2, o2 + 1, none⟩ = some (.int .i64 h.k)) (by kernel_rfl) ?_ (fun hHeld => ?_)
            · exact HS.out
            refine wpAnyH_take (i := 0) (v := ?vm0) rfl (by kernel_rfl) (by kernel_rfl) (by kernel_rfl) (fun _ _ _ h => h) (Or.inl ⟨by rfl, ?hym0⟩) (by assumption) ?_
            case hym0 =>
              intro w hSw
              (try dsimp only at hSw)
              go_simp
              try with_reducible rfl
            try simp only [Act.put, List.setIfInBounds_toArray, List.set_cons_zero, List.set_cons_succ, List.getElem_toArray, List.getElem_cons_zero, List.getElem_cons_succ]
            refine wpAnyH_take (i := 1) (v := ?vm1) rfl (by kernel_rfl) (by kernel_rfl) (by kernel_rfl) (fun _ _ _ h => h) (Or.inl ⟨by rfl, ?hym1⟩) (by assumption) ?_
            case hym1 =>
              intro w hSw
              (try dsimp only at hSw)
              go_simp
              try with_reducible rfl
            try simp only [Act.put, List.setIfInBounds_toArray, List.set_cons_zero, List.set_cons_succ, List.getElem_toArray, List.getElem_cons_zero, List.getElem_cons_succ]
            refine wpAnyH_take (i := 2) (v := ?vm2) rfl (by kernel_rfl) (by kernel_rfl) (by kernel_rfl) (fun _ _ _ h => h) (Or.inl ⟨by rfl, ?hym2⟩) (by assumption) ?_
            case hym2 =>
              intro w hSw
              (try dsimp only at hSw)
              go_simp
              try with_reducible rfl
            try simp only [Act.put, List.setIfInBounds_toArray, List.set_cons_zero, List.set_cons_succ, List.getElem_toArray, List.getElem_cons_zero, List.getElem_cons_succ]
            refine wpAnyH_take (i := 3) (v := ?vm3) rfl (by kernel_rfl) (by kernel_rfl) (by kernel_rfl) (fun _ _ _ h => h) (Or.inl ⟨by rfl, ?hym3⟩) (by assumption) ?_
            case hym3 =>
              intro w hSw
              (try dsimp only at hSw)
              go_simp
              try with_reducible rfl
            try simp only [Act.put, List.setIfInBounds_toArray, List.set_cons_zero, List.set_cons_succ, List.getElem_toArray, List.getElem_cons_zero, List.getElem_cons_succ]
            refine wpAnyH_take (i := 4) (v := ?vm4) rfl (by kernel_rfl) (by kernel_rfl) (by kernel_rfl) (fun _ _ _ h => h) (Or.inl ⟨by rfl, ?hym4⟩) (by assumption) ?_
            case hym4 =>
              intro w hSw
              (try dsimp only at hSw)
              go_simp
              try with_reducible rfl
            try simp only [Act.put, List.setIfInBounds_toArray, List.set_cons_zero, List.set_cons_succ, List.getElem_toArray, List.getElem_cons_zero, List.getElem_cons_succ]
            refine wpAnyH_take (i := 5) (v := ?vm5) rfl (by kernel_rfl) (by kernel_rfl) (by kernel_rfl) (fun _ _ _ h => h) (Or.inl ⟨by rfl, ?hym5⟩) (by assumption) ?_
            case hym5 =>
              intro w hSw
              (try dsimp only at hSw)
              go_simp
              try with_reducible rfl
            try simp only [Act.put, List.setIfInBounds_toArray, List.set_cons_zero, List.set_cons_succ, List.getElem_toArray, List.getElem_cons_zero, List.getElem_cons_succ]
            refine wpAnyH_take (i := 6) (v := ?vm6) rfl (by kernel_rfl) (by kernel_rfl) (by kernel_rfl) (fun _ _ _ h => h) (Or.inl ⟨by rfl, ?hym6⟩) (by assumption) ?_
            case hym6 =>
              intro w hSw
              (try dsimp only at hSw)
              go_simp
              try with_reducible rfl
            try simp only [Act.put, List.setIfInBounds_toArray, List.set_cons_zero, List.set_cons_succ, List.getElem_toArray, List.getElem_cons_zero, List.getElem_cons_succ]
            refine wpAnyH_take (i := 7) (v := ?vm7) rfl (by kernel_rfl) (by kernel_rfl) (by kernel_rfl) (fun _ _ _ h => h) (Or.inl ⟨by rfl, ?hym7⟩) (by assumption) ?_
            case hym7 =>
              intro w hSw
              (try dsimp only at hSw)
              go_simp
              try with_reducible rfl
            try simp only [Act.put, List.setIfInBounds_toArray, List.set_cons_zero, List.set_cons_succ, List.getElem_toArray, List.getElem_cons_zero, List.getElem_cons_succ]
            refine wpAnyH_take (i := 8) (v := ?vm8) rfl (by kernel_rfl) (by kernel_rfl) (by kernel_rfl) (fun _ _ _ h => h) (Or.inl ⟨by rfl, ?hym8⟩) (by assumption) ?_
            case hym8 =>
              intro w hSw
              (try dsimp only at hSw)
              go_simp
              try with_reducible rfl
            try simp only [Act.put, List.setIfInBounds_toArray, List.set_cons_zero, List.set_cons_succ, List.getElem_toArray, List.getElem_cons_zero, List.getElem_cons_succ]
            refine wpAnyH_take (i := 9) (v := ?vm9) rfl (by kernel_rfl) (by kernel_rfl) (by kernel_rfl) (fun _ _ _ h => h) (Or.inl ⟨by rfl, ?hym9⟩) (by assumption) ?_
            case hym9 =>
              intro w hSw
              (try dsimp only at hSw)
              go_simp
              try with_reducible rfl
            try simp only [Act.put, List.setIfInBounds_toArray, List.set_cons_zero, List.set_cons_succ, List.getElem_toArray, List.getElem_cons_zero, List.getElem_cons_succ]
            refine wpAnyH_take (i := 10) (v := ?vm10) rfl (by kernel_rfl) (by kernel_rfl) (by kernel_rfl) (fun _ _ _ h => h) (Or.inl ⟨by rfl, ?hym10⟩) (by assumption) ?_
            case hym10 =>
              intro w hSw
              (try dsimp only at hSw)
              go_simp
              try with_reducible rfl
            try simp only [Act.put, List.setIfInBounds_toArray, List.set_cons_zero, List.set_cons_succ, List.getElem_toArray, List.getElem_cons_zero, List.getElem_cons_succ]
            refine wpAnyH_take (i := 11) (v := ?vm11) rfl (by kernel_rfl) (by kernel_rfl) (by kernel_rfl) (fun _ _ _ h => h) (Or.inl ⟨by rfl, ?hym11⟩) (by assumption) ?_
            case hym11 =>
              intro w hSw
              (try dsimp only at hSw)
              go_simp
              try with_reducible rfl
            try simp only [Act.put, List.setIfInBounds_toArray, List.set_cons_zero, List.set_cons_succ, List.getElem_toArray, List.getElem_cons_zero, List.getElem_cons_succ]
            refine wpAnyH_take (i := 12) (v := ?vm12) rfl (by kernel_rfl) (by kernel_rfl) (by kernel_rfl) (fun _ _ _ h => h) (Or.inl ⟨by rfl, ?hym12⟩) (by assumption) ?_
            case hym12 =>
              intro w hSw
              (try dsimp only at hSw)
              go_simp
              try with_reducible rfl
            try simp only [Act.put, List.setIfInBounds_toArray, List.set_cons_zero, List.set_cons_succ, List.getElem_toArray, List.getElem_cons_zero, List.getElem_cons_succ]
            refine wpAnyH_take (i := 13) (v := ?vm13) rfl (by kernel_rfl) (by kernel_rfl) (by kernel_rfl) (fun _ _ _ h => h) (Or.inl ⟨by rfl, ?hym13⟩) (by assumption) ?_
            case hym13 =>
              intro w hSw
              (try dsimp only at hSw)
              go_simp
              try with_reducible rfl
            try simp only [Act.put, List.setIfInBounds_toArray, List.set_cons_zero, List.set_cons_succ, List.getElem_toArray, List.getElem_cons_zero, List.getElem_cons_succ]
            refine wpAnyH_ready (rs := [14]) (by kernel_rfl) (by simp) ?_
            refine AllReadyH.cons rfl (fun K hK => ?_) AllReadyH.nil
            go_simp
            refine (p_less r.a r.k h.a h.k _).mono ?_
            rintro e w5 ⟨rfl, k5⟩
            have HK5 : Hid (Kept [] wr w5) := (Kept.refl [] wr).drew.trans k5 (by simp)
            clear k5
            go_wp2_with fail
            refine hK.out _ _ ?_ (fun hHeld => ?_)
            · exact s5_kept HS.out HK5.out
            clear hK K
            try simp only [Act.put, List.setIfInBounds_toArray, List.set_cons_zero, List.set_cons_succ, List.getElem_toArray, List.getElem_cons_zero, List.getElem_cons_succ]
            refine wpAnyH_take (i := 15) (v := ?vm15) rfl (by kernel_rfl) (by kernel_rfl) (by kernel_rfl) (fun _ _ _ h => h) (Or.inl ⟨by rfl, ?hym15⟩) (by assumption) ?_
            case hym15 =>
              intro w hSw
              (try dsimp only at hSw)
              go_simp
              try with_reducible rfl
            try simp only [Act.put, List.setIfInBounds_toArray, List.set_cons_zero, List.set_cons_succ, List.getElem_toArray, List.getElem_cons_zero, List.getElem_cons_succ]
            refine wpAnyH_done (by kernel_rfl) ?_ _
            rw [HLs.out]
            go_wp2_with fail
            go_roundw
            case rel => exact ⟨j + 1, by go_num, by rw [HE.out], by omega, HJ.out.trans HK5.out (by simp)⟩
            case measure => simp [intOf]; omega
    · have hjn : j = n := by omega
      subst hjn
      have j1 : ¬ (j : Int) < (j : Int) := by omega
      go_wp2_with fail
      go_ret
      exact ⟨rfl, HJ.out⟩

end Go.Proofs.Ytlecpeofjabndaa
