/-
  Words, the document's.
-/
import Derived.Test.YtndcbpbigbjfeaaMe
namespace Go.Proofs.Ytndcbpbigbjfeaa
open Go.RowKit
set_option linter.unusedSimpArgs false
set_option linter.unusedVariables false

/-- A rising list, cut where p belongs. -/
theorem ins_at {L : List Int} {k : Nat} {p : Int} (hL : Rises L) (h1 : ∀ z ∈ L.take k, z < p) (h2 : ∀ z ∈ L.drop k, p < z) : Rises (L.take k ++ [p] ++ L.drop k) := by
  have ht : Rises (L.take k) := List.Pairwise.sublist (List.take_sublist k L) hL
  have hd : Rises (L.drop k) := List.Pairwise.sublist (List.drop_sublist k L) hL
  refine (ht.append (List.pairwise_singleton _ _) fun x hx y hy => by rw [List.mem_singleton.1 hy]; exact h1 x hx).append hd fun x hx y hy => ?_
  rcases List.mem_append.1 hx with hx | hx
  · have := h1 x hx; have := h2 y hy; omega
  · rw [List.mem_singleton.1 hx]; exact h2 y hy

theorem take_lt {L : List Int} {m : Nat} {e p : Int} (hL : Rises L) (he : L[m]? = some e) (h : e < p) : ∀ z ∈ L.take (m + 1), z < p := fun z hz => by
  have e1 : L.take (m + 1) = L.take m ++ [e] := by rw [List.take_add_one, he]; rfl
  have hr : Rises (L.take m ++ [e]) := by rw [← e1]; exact List.Pairwise.sublist (List.take_sublist _ L) hL
  rw [e1] at hz
  rcases List.mem_append.1 hz with hz | hz
  · have := (List.pairwise_append.1 hr).2.2 z hz e (by simp); omega
  · rw [List.mem_singleton.1 hz]; exact h

theorem drop_gt {L : List Int} {m : Nat} {e p : Int} (he : L[m]? = some e) (h : p < e) (h2 : ∀ z ∈ L.drop (m + 1), p < z) : ∀ z ∈ L.drop m, p < z := fun z hz => by
  obtain ⟨hl, hv⟩ := List.getElem?_eq_some_iff.1 he
  rw [List.drop_eq_getElem_cons hl, hv] at hz
  rcases List.mem_cons.1 hz with rfl | hz
  · exact h
  · exact h2 z hz

theorem Rd.take {w : World} {g n c : Nat} {L : List Int} (h : Rd w (.slice (some ⟨g, 0, none⟩) n c) L) (k : Nat) (hk : k ≤ L.length) (c' : Nat) (hc : k ≤ c') : Rd w (.slice (some ⟨g, 0, none⟩) k c') (L.take k) := by
  obtain ⟨a, c2, h1, h2, h3⟩ := h
  simp only [Value.slice.injEq] at h1
  obtain ⟨rfl, rfl, rfl⟩ := h1
  have e : (L.take k).length = k := by simp; omega
  refine ⟨_, c', by rw [e], by rw [e]; exact hc, fun i hi => ?_⟩
  obtain ⟨b, off, h4, h5⟩ := h3 i (by omega)
  refine ⟨b, off, h4, ?_⟩
  have e2 : (L.take k).getD i 0 = L.getD i 0 := by
    rw [List.getD_eq_getElem?_getD, List.getD_eq_getElem?_getD, List.getElem?_take_of_lt (by omega)]
  show w.cell? _ = some (.int .i64 ((L.take k).getD i 0))
  rw [e2]; exact h5

theorem Rd.drop {w : World} {g n c : Nat} {L : List Int} (h : Rd w (.slice (some ⟨g, 0, none⟩) n c) L) (k : Nat) (hk : k ≤ L.length) (a' : Option Addr) (ha : k < L.length → a' = some ⟨g, k, none⟩) (n' : Nat) (hn' : n' = L.length - k) (c' : Nat) (hc : L.length - k ≤ c') : Rd w (.slice a' n' c') (L.drop k) := by
  obtain ⟨a, c2, h1, h2, h3⟩ := h
  simp only [Value.slice.injEq] at h1
  obtain ⟨rfl, rfl, rfl⟩ := h1
  have e : (L.drop k).length = L.length - k := by simp
  refine ⟨_, c', by rw [e, hn'], by rw [e]; exact hc, fun i hi => ?_⟩
  obtain ⟨b, off, h4, h5⟩ := h3 (k + i) (by omega)
  simp only [Option.some.injEq, Addr.mk.injEq, and_true] at h4
  obtain ⟨rfl, rfl⟩ := h4
  refine ⟨_, k, ha (by omega), ?_⟩
  have e2 : (L.drop k).getD i 0 = L.getD (k + i) 0 := by
    rw [List.getD_eq_getElem?_getD, List.getD_eq_getElem?_getD, List.getElem?_drop]
  show w.cell? _ = some (.int .i64 ((L.drop k).getD i 0))
  rw [e2]
  simpa using h5

theorem buildI0 (w : World) : (Instr.buildSlice 24 0 #[]).run Try.prog w = .ok (.slice (some ⟨w.heap.size, 0, none⟩) 0 0) (w.alloc (.cells #[] 3)) := by kernel_rfl

theorem wpList_append_ex {P : Program} (w : World) {ops : Array Oper} {rest : List Oper} {o : Oper} {a : Act} {Q : Exit → Act → World → Prop} (hgd : o.guard = none) (s x : Operand) (t1 t2 : TypeId)
    (ho : o.op = .call { callee := .builtin .append, args := #[s, x], argTypes := #[t1, t2] }) (v u : Value) (hs : a.eval s = v) (hx : a.eval x = u) {Post : Value → World → Prop}
    (hr : ∃ v' w', (Builtin.append_ #[t1, t2] o.type #[v, u]).run P w = .ok v' w' ∧ Post v' w') (h : ∀ v' w', Post v' w' → wpList P ops Q rest (a.put o.dst v') w') : wpList P ops Q (o :: rest) a w := by
  obtain ⟨v', w', h1, h2⟩ := hr
  exact wpList_append_run w hgd s x t1 t2 ho v u hs hx v' w' h1 (h v' w' h2)

/-- The three appends. -/
theorem three {w0 w : World} {A B : List Int} {u1 : Value} (p : Int) (hS : Below w0.heap.size w0 w) (h1 : Rd w u1 A) (hb : (A.length + 1 + B.length) * 8 ≤ 140737488355328) :
    ∃ v1 w1 v2 w2, (Builtin.append_ #[24, 24] 24 #[.slice (some ⟨w.heap.size, 0, none⟩) 0 0, u1]).run Try.prog (w.alloc (.cells #[] 3)) = .ok v1 w1 ∧
      (Builtin.append_ #[24, 24] 24 #[v1, .slice (some ⟨w1.heap.size, 0, none⟩) 1 1]).run Try.prog (w1.alloc (.cells #[.int .i64 p] 3)) = .ok v2 w2 ∧
      Still w w1 ∧ Still w w2 ∧ ∀ u2, Rd w u2 B → ∃ v3 w3, (Builtin.append_ #[24, 24] 24 #[v2, u2]).run Try.prog w2 = .ok v3 w3 ∧ Own w3 w0.heap.size v3 (A ++ [p] ++ B) ∧ Below w0.heap.size w0 w3 := by
  have hsz := hS.size
  have hS0 : Still w (w.alloc (.cells #[] 3)) := (Below.refl _ _).alloc (Nat.le_refl _) _
  have ho0 : Own (w.alloc (.cells #[] 3)) w.heap.size (.slice (some ⟨w.heap.size, 0, none⟩) 0 0) [] := World.ownsRow_made w #[] 0 (Nat.le_refl _) (by unfold maxLen; omega) (by simp)
  obtain ⟨v1, w1, r1, o1, g1, -⟩ := append_any ho0 (h1.still hS0) (by simp) (by simp; omega) 24
  have s1 : Still w w1 := hS0.grown g1 (by simp) (fun k hk => (ho0.block k hk).1)
  obtain ⟨v2, w2, r2, o2, s2, g2, -⟩ := append_new (w0 := w) o1 s1 (s1.size) p (by simp; omega) 24
  refine ⟨v1, w1, v2, w2, r1, r2, s1, s2, fun u2 h2 => ?_⟩
  obtain ⟨v3, w3, r3, o3, g3, -⟩ := append_any o2 (h2.still s2) s2.size (by simp; omega) 24
  refine ⟨v3, w3, r3, ?_, ?_⟩
  · rw [List.nil_append] at o3; exact o3.mono hsz
  · exact (Still.trans hS s2 hsz).grown g3 (Nat.le_trans hsz s2.size) (fun k hk => Nat.le_trans hsz (o2.block k hk).1)

set_option maxRecDepth 100000 in
set_option maxHeartbeats 8000000 in
theorem r_Words {w : World} {a : Option Addr} {c : Nat} {X : List (Int × Bool)} (h : Al w a X) (ws : Bool) (hn : X.length * 16 ≤ 140737488355328) :
    Calls Try.prog 12 #[.slice a X.length c, .bool ws] w fun e w' => ∃ r, e = .returned r ∧ Own w' w.heap.size r (canon (pos (fun q => !ws || q) X)) ∧ Still w w' := by
  have HA : Hid (Al w a X) := h
  clear h
  obtain ⟨cnt, hcnt⟩ : ∃ f : Bool → Bool, f = fun q => !ws || q := ⟨_, rfl⟩
  rw [← hcnt]
  have HC : Hid (_ = _) := hcnt
  clear hcnt
  go_enter Try.func12, Try.ntmps12
  go_wp2_with fail
  go_loopw [5, 6] (fun o i wz => ∃ n : Nat, n ≤ X.length ∧ i = .int .i64 (n : Int) ∧ Hid (Own wz w.heap.size o (canon (pos cnt (X.take n))) ∧ Still w wz)) (fun _ i _ => (X.length - intOf i).toNat)
  case atStart => exact ⟨0, by omega, rfl, Own.nil _ _, Below.refl _ _⟩
  case round =>
    obtain ⟨n, hk, rfl, HK⟩ := hrel
    by_cases hlt : n < X.length
    · have k0 : (0 : Int) ≤ (n : Int) := by omega
      have k1 : (n : Int) < (X.length : Int) := by omega
      obtain ⟨⟨p, q⟩, hx⟩ : ∃ x, X[n]? = some x := ⟨X[n], by simp⟩
      obtain ⟨b, off, rfl, g0, g1⟩ := HA.out n p q hx
      have x1 := cell_still HK.out.2 g1
      have G0 : Hid (w.cell? ⟨b, off + n * 2, none⟩ = some (.int .i64 p)) := g0
      clear g0 g1
      have HX : Hid (X.take (n + 1) = X.take n ++ [(p, q)]) := take_succ hx
      clear hx
      have HL : Hid ((canon (pos cnt (X.take n))).length ≤ n) := by
        have h1 := length_canon (pos cnt (X.take n))
        have h2 := pos_len cnt (X.take n)
        rw [List.length_take] at h2
        show _ ≤ _
        omega
      cases hq : cnt q with
      | false =>
        -- a reading where writings alone are asked for
        obtain ⟨rfl, rfl⟩ : ws = true ∧ q = false := by
          rw [HC.out] at hq
          revert hq
          cases ws <;> cases q <;> simp
        have HN : Hid (pos cnt (X.take (n + 1)) = pos cnt (X.take n)) := by
          rw [HX.out, pos_append]; show _ = _; simp [pos, hq]
        clear hq
        go_wp2
        go_roundw
        case rel => exact ⟨n + 1, by omega, by go_num, by rw [HN.out]; exact HK.out⟩
        case measure => simp [intOf]; omega
      | true =>
        have HN : Hid (pos cnt (X.take (n + 1)) = pos cnt (X.take n) ++ [p]) := by
          rw [HX.out, pos_append]; show _ = _; simp [pos, hq]
        cases ws with
        | true =>
          obtain rfl : q = true := by
            rw [HC.out] at hq
            simpa using hq
          clear hq HX
          obtain ⟨L, hLd⟩ : ∃ L, L = canon (pos cnt (X.take n)) := ⟨_, rfl⟩
          rw [← hLd] at HK HL
          have HR : Hid (Rises L) := by rw [hLd]; exact rises_canon _
          have HLD : Hid (_ = _) := hLd
          clear hLd
          have hLn := HL.out
          rcases HK.out.1.form with ⟨rfl, rfl⟩ | ⟨g, cap, cur, rfl, -, -, hcap, -⟩
          · go_wp2_with fail
            go_loopw [7] (fun i wz' => i = .int .i64 0 ∧ Hid (Still w wz')) (fun _ _ => 0)
            case atStart => exact ⟨rfl, HK.out.2⟩
            case round =>
              obtain ⟨rfl, HS⟩ := hrel
              go_wp2_with fail
              go_quiet (fail)
              revert nq; intro n1
              go_wp2_with fail
              go_quiet (fail)
              have SZ : Still w (wr.drewN (n1 + nq)) := Below.drewN HS.out (n1 + nq)
              obtain ⟨v1, w1, v2, w2, r1, r2, s1, s2, r3⟩ := three (A := ([] : List Int).take 0) (B := ([] : List Int).drop 0) (u1 := .slice none 0 0) p SZ ⟨none, 0, rfl, Nat.le_refl _, fun i hi => by simp at hi⟩ (by simp)
              have hcan : ([] : List Int).take 0 ++ [p] ++ ([] : List Int).drop 0 = canon (pos cnt (X.take (n + 1))) := by
                refine canon_eq (ins_at HR.out (by simp) (by simp)) fun z => ?_
                rw [HN.out, List.mem_append (s := pos cnt (X.take n)), ← mem_canon (pos cnt (X.take n)), ← HLD.out, List.mem_append, List.mem_append, List.mem_singleton]
                constructor
                · rintro ((h | h) | h)
                  · exact Or.inl (List.mem_of_mem_take h)
                  · exact Or.inr h
                  · exact Or.inl (List.mem_of_mem_drop h)
                · rintro (h | h)
                  · rw [← List.take_append_drop 0 ([] : List Int)] at h
                    rcases List.mem_append.1 h with h | h
                    · exact Or.inl (Or.inl h)
                    · exact Or.inr h
                  · exact Or.inl (Or.inr h)
              have q0 := cell_still (Still.then SZ s1) G0.out
              have hr1 : Hid (_ = _) := r1
              have hr2 : Hid (_ = _) := r2
              have hr3 : Hid (∀ u2, Rd (wr.drewN (n1 + nq)) u2 (([] : List Int).drop 0) → _) := r3
              have HCAN : Hid (_ = _) := hcan
              have tok1 : True := trivial
              have tok2 : True := trivial
              clear r1 r2 r3 s1 s2 hcan
              go_wp2_with (first
                | (at_builtin; clear tok1; refine wpList_append_run _ (by rfl) _ _ 24 24 (by rfl) _ _ (by rfl) (by rfl) _ _ hr1.out ?_)
                | (at_builtin; clear tok2; refine wpList_append_run _ (by rfl) _ _ 24 24 (by rfl) _ _ (by rfl) (by rfl) _ _ hr2.out ?_)
                | (at_builtin; refine wpList_append_ex _ (by rfl) _ _ 24 24 (by rfl) _ _ (by rfl) (by rfl) (hr3.out _ ⟨none, 0, rfl, Nat.le_refl _, fun i hi => by simp at hi⟩) ?_; intro v3 w3 HI))
              all_goals go_roundw
              case rel => exact ⟨n + 1, by omega, by go_num, by have := HI; rw [HCAN.out] at this; exact this⟩
              case measure => simp [intOf]; omega
          · go_wp2_with fail
            go_loopw [7] (fun i wz' => ∃ k : Nat, k ≤ L.length ∧ i = .int .i64 (k : Int) ∧ Hid ((∀ z ∈ L.drop k, p < z) ∧ Own wz' w.heap.size (.slice (some ⟨g, 0, none⟩) L.length cap) L ∧ Still w wz')) (fun i _ => (intOf i).toNat)
            case atStart => exact ⟨L.length, Nat.le_refl _, rfl, by simp, HK.out⟩
            case round =>
              obtain ⟨k, hkl, rfl, HS⟩ := hrel
              obtain ⟨hi, hO, hS⟩ := HS.out
              have hcz : ∀ (m : Nat) (e : Int), L[m]? = some e → wr.cell? ⟨g, m, none⟩ = some (.int .i64 e) := fun m e he => by
                have hm := (List.getElem?_eq_some_iff.1 he).1
                obtain ⟨-, b', o', e1, e2⟩ := hO.rd.at hm
                simp only [Option.some.injEq, Addr.mk.injEq, and_true] at e1
                obtain ⟨rfl, rfl⟩ := e1
                rw [Nat.zero_add] at e2
                rw [e2, List.getD_eq_getElem?_getD, he]; rfl
              have z0 := cell_still hS G0.out
              have HB : Hid (_ ∧ _ ∧ _) := ⟨hi, hO, hS⟩
              clear HS hi hO hS x1
              rcases Nat.eq_zero_or_pos k with rfl | hpos
              · have HIN : Hid (∀ z ∈ L.take 0, z < p) := by simp [Hid]
                clear hcz
                rw [show ((0 : Nat) : Int) = 0 from rfl]
                go_wp2_with fail
                go_quiet (fail)
                revert nq; intro n1
                go_wp2_with fail
                go_quiet (fail)
                have SZ : Still w (wr.drewN (n1 + nq)) := Below.drewN HB.out.2.2 (n1 + nq)
                obtain ⟨v1, w1, v2, w2, r1, r2, s1, s2, r3⟩ := three (A := L.take 0) (B := L.drop 0) (u1 := .slice (some ⟨g, 0, none⟩) 0 cap) p SZ ((HB.out.2.1.rd.still (Below.drewN (Below.refl _ _) (n1 + nq))).take 0 (by omega) cap (by omega)) (by simp; omega)
                have hcan : L.take 0 ++ [p] ++ L.drop 0 = canon (pos cnt (X.take (n + 1))) := by
                  refine canon_eq (ins_at HR.out HIN.out HB.out.1) fun z => ?_
                  rw [HN.out, List.mem_append (s := pos cnt (X.take n)), ← mem_canon (pos cnt (X.take n)), ← HLD.out, List.mem_append, List.mem_append, List.mem_singleton]
                  constructor
                  · rintro ((h | h) | h)
                    · exact Or.inl (List.mem_of_mem_take h)
                    · exact Or.inr h
                    · exact Or.inl (List.mem_of_mem_drop h)
                  · rintro (h | h)
                    · rw [← List.take_append_drop 0 L] at h
                      rcases List.mem_append.1 h with h | h
                      · exact Or.inl (Or.inl h)
                      · exact Or.inr h
                    · exact Or.inl (Or.inr h)
                have q0 := cell_still (Still.then SZ s1) G0.out
                have hr1 : Hid (_ = _) := r1
                have hr2 : Hid (_ = _) := r2
                have hr3 : Hid (∀ u2, Rd (wr.drewN (n1 + nq)) u2 (L.drop 0) → _) := r3
                have HCAN : Hid (_ = _) := hcan
                have tok1 : True := trivial
                have tok2 : True := trivial
                clear r1 r2 r3 s1 s2 hcan
                go_wp2_with (first
                  | (at_builtin; clear tok1; refine wpList_append_run _ (by rfl) _ _ 24 24 (by rfl) _ _ (by rfl) (by rfl) _ _ hr1.out ?_)
                  | (at_builtin; clear tok2; refine wpList_append_run _ (by rfl) _ _ 24 24 (by rfl) _ _ (by rfl) (by rfl) _ _ hr2.out ?_)
                  | (at_builtin; refine wpList_append_ex _ (by rfl) _ _ 24 24 (by rfl) _ _ (by rfl) (by rfl) (hr3.out _ ((HB.out.2.1.rd.still (Below.drewN (Below.refl _ _) (n1 + nq))).drop 0 (by omega) _ (fun h => by first | rfl | (rw [if_neg (by omega)]) | (exfalso; omega)) _ (by first | rfl | omega | simp) _ (by omega))) ?_; intro v3 w3 HI))
                all_goals go_roundw
                case rel => exact ⟨n + 1, by omega, by go_num, by have := HI; rw [HCAN.out] at this; exact this⟩
                case measure => simp [intOf]; omega
              · obtain ⟨m, rfl⟩ : ∃ m, k = m + 1 := ⟨k - 1, by omega⟩
                obtain ⟨e, he⟩ : ∃ e, L[m]? = some e := ⟨L[m], by simp⟩
                have y0 := hcz m e he
                have j0 : (0 : Int) < (m : Int) + 1 := by omega
                have j1 : (0 : Int) ≤ (m : Int) := by omega
                have j2 : (m : Int) < (L.length : Int) := by omega
                have HE : Hid (L[m]? = some e) := he
                clear hcz hpos he
                rcases Int.lt_trichotomy e p with hl | rfl | hl
                · have HIN : Hid (∀ z ∈ L.take (m + 1), z < p) := take_lt HR.out HE.out hl
                  have t1 : decide (p < e) = false := by simp; omega
                  have t2 : (e == p) = false := by simp; omega
                  go_wp2_with fail
                  go_quiet (fail)
                  revert nq; intro n1
                  go_wp2_with fail
                  go_quiet (fail)
                  have SZ : Still w (wr.drewN (n1 + nq)) := Below.drewN HB.out.2.2 (n1 + nq)
                  obtain ⟨v1, w1, v2, w2, r1, r2, s1, s2, r3⟩ := three (A := L.take (m + 1)) (B := L.drop (m + 1)) (u1 := .slice (some ⟨g, 0, none⟩) (m + 1) cap) p SZ ((HB.out.2.1.rd.still (Below.drewN (Below.refl _ _) (n1 + nq))).take (m + 1) (by omega) cap (by omega)) (by simp; omega)
                  have hcan : L.take (m + 1) ++ [p] ++ L.drop (m + 1) = canon (pos cnt (X.take (n + 1))) := by
                    refine canon_eq (ins_at HR.out HIN.out HB.out.1) fun z => ?_
                    rw [HN.out, List.mem_append (s := pos cnt (X.take n)), ← mem_canon (pos cnt (X.take n)), ← HLD.out, List.mem_append, List.mem_append, List.mem_singleton]
                    constructor
                    · rintro ((h | h) | h)
                      · exact Or.inl (List.mem_of_mem_take h)
                      · exact Or.inr h
                      · exact Or.inl (List.mem_of_mem_drop h)
                    · rintro (h | h)
                      · rw [← List.take_append_drop (m + 1) L] at h
                        rcases List.mem_append.1 h with h | h
                        · exact Or.inl (Or.inl h)
                        · exact Or.inr h
                      · exact Or.inl (Or.inr h)
                  have q0 := cell_still (Still.then SZ s1) G0.out
                  have hr1 : Hid (_ = _) := r1
                  have hr2 : Hid (_ = _) := r2
                  have hr3 : Hid (∀ u2, Rd (wr.drewN (n1 + nq)) u2 (L.drop (m + 1)) → _) := r3
                  have HCAN : Hid (_ = _) := hcan
                  have tok1 : True := trivial
                  have tok2 : True := trivial
                  clear r1 r2 r3 s1 s2 hcan
                  go_wp2_with (first
                    | (at_builtin; clear tok1; refine wpList_append_run _ (by rfl) _ _ 24 24 (by rfl) _ _ (by rfl) (by rfl) _ _ hr1.out ?_)
                    | (at_builtin; clear tok2; refine wpList_append_run _ (by rfl) _ _ 24 24 (by rfl) _ _ (by rfl) (by rfl) _ _ hr2.out ?_)
                    | (at_builtin; refine wpList_append_ex _ (by rfl) _ _ 24 24 (by rfl) _ _ (by rfl) (by rfl) (hr3.out _ ((HB.out.2.1.rd.still (Below.drewN (Below.refl _ _) (n1 + nq))).drop (m + 1) (by omega) _ (fun h => by first | rfl | (rw [if_neg (by omega)]) | (exfalso; omega)) _ (by first | rfl | omega | simp) _ (by omega))) ?_; intro v3 w3 HI))
                  all_goals go_roundw
                  case rel => exact ⟨n + 1, by omega, by go_num, by have := HI; rw [HCAN.out] at this; exact this⟩
                  case measure => simp [intOf]; omega
                · have t1 : decide (e < e) = false := by simp
                  have t2 : (e == e) = true := by simp
                  have HI : Hid (canon (pos cnt (X.take (n + 1))) = L) := by
                    rw [HN.out]
                    refine (canon_eq HR.out fun z => ?_).symm
                    rw [List.mem_append, ← mem_canon (pos cnt (X.take n)), ← HLD.out, List.mem_singleton]
                    exact ⟨Or.inl, fun h => h.elim id fun h => by rw [h]; exact List.mem_of_getElem? HE.out⟩
                  go_wp2_with fail
                  go_quiet (fail)
                  revert nq; intro n1
                  go_wp2_with fail
                  go_quiet (fail)
                  go_wp2
                  go_roundw
                  case rel => exact ⟨n + 1, by omega, by go_num, by rw [HI.out]; exact HB.out.2.1, Below.drewN HB.out.2.2 _⟩
                  case measure => simp [intOf]; omega
                · have HGT : Hid (∀ z ∈ L.drop m, p < z) := drop_gt HE.out hl HB.out.1
                  have t1 : p < e := hl
                  go_wp2_with fail
                  go_quiet (fail)
                  go_wp2
                  go_roundw
                  case rel => exact ⟨m, by omega, by first | rfl | go_num, HGT.out, HB.out.2.1, Below.drewN HB.out.2.2 _⟩
                  case measure => simp [intOf]
        | false =>
          clear hq HX
          obtain ⟨L, hLd⟩ : ∃ L, L = canon (pos cnt (X.take n)) := ⟨_, rfl⟩
          rw [← hLd] at HK HL
          have HR : Hid (Rises L) := by rw [hLd]; exact rises_canon _
          have HLD : Hid (_ = _) := hLd
          clear hLd
          have hLn := HL.out
          rcases HK.out.1.form with ⟨rfl, rfl⟩ | ⟨g, cap, cur, rfl, -, -, hcap, -⟩
          · go_wp2_with fail
            go_loopw [7] (fun i wz' => i = .int .i64 0 ∧ Hid (Still w wz')) (fun _ _ => 0)
            case atStart => exact ⟨rfl, HK.out.2⟩
            case round =>
              obtain ⟨rfl, HS⟩ := hrel
              go_wp2_with fail
              go_quiet (fail)
              revert nq; intro n1
              go_wp2_with fail
              go_quiet (fail)
              have SZ : Still w (wr.drewN (n1 + nq)) := Below.drewN HS.out (n1 + nq)
              obtain ⟨v1, w1, v2, w2, r1, r2, s1, s2, r3⟩ := three (A := ([] : List Int).take 0) (B := ([] : List Int).drop 0) (u1 := .slice none 0 0) p SZ ⟨none, 0, rfl, Nat.le_refl _, fun i hi => by simp at hi⟩ (by simp)
              have hcan : ([] : List Int).take 0 ++ [p] ++ ([] : List Int).drop 0 = canon (pos cnt (X.take (n + 1))) := by
                refine canon_eq (ins_at HR.out (by simp) (by simp)) fun z => ?_
                rw [HN.out, List.mem_append (s := pos cnt (X.take n)), ← mem_canon (pos cnt (X.take n)), ← HLD.out, List.mem_append, List.mem_append, List.mem_singleton]
                constructor
                · rintro ((h | h) | h)
                  · exact Or.inl (List.mem_of_mem_take h)
                  · exact Or.inr h
                  · exact Or.inl (List.mem_of_mem_drop h)
                · rintro (h | h)
                  · rw [← List.take_append_drop 0 ([] : List Int)] at h
                    rcases List.mem_append.1 h with h | h
                    · exact Or.inl (Or.inl h)
                    · exact Or.inr h
                  · exact Or.inl (Or.inr h)
              have q0 := cell_still (Still.then SZ s1) G0.out
              have hr1 : Hid (_ = _) := r1
              have hr2 : Hid (_ = _) := r2
              have hr3 : Hid (∀ u2, Rd (wr.drewN (n1 + nq)) u2 (([] : List Int).drop 0) → _) := r3
              have HCAN : Hid (_ = _) := hcan
              have tok1 : True := trivial
              have tok2 : True := trivial
              clear r1 r2 r3 s1 s2 hcan
              go_wp2_with (first
                | (at_builtin; clear tok1; refine wpList_append_run _ (by rfl) _ _ 24 24 (by rfl) _ _ (by rfl) (by rfl) _ _ hr1.out ?_)
                | (at_builtin; clear tok2; refine wpList_append_run _ (by rfl) _ _ 24 24 (by rfl) _ _ (by rfl) (by rfl) _ _ hr2.out ?_)
                | (at_builtin; refine wpList_append_ex _ (by rfl) _ _ 24 24 (by rfl) _ _ (by rfl) (by rfl) (hr3.out _ ⟨none, 0, rfl, Nat.le_refl _, fun i hi => by simp at hi⟩) ?_; intro v3 w3 HI))
              all_goals go_roundw
              case rel => exact ⟨n + 1, by omega, by go_num, by have := HI; rw [HCAN.out] at this; exact this⟩
              case measure => simp [intOf]; omega
          · go_wp2_with fail
            go_loopw [7] (fun i wz' => ∃ k : Nat, k ≤ L.length ∧ i = .int .i64 (k : Int) ∧ Hid ((∀ z ∈ L.drop k, p < z) ∧ Own wz' w.heap.size (.slice (some ⟨g, 0, none⟩) L.length cap) L ∧ Still w wz')) (fun i _ => (intOf i).toNat)
            case atStart => exact ⟨L.length, Nat.le_refl _, rfl, by simp, HK.out⟩
            case round =>
              obtain ⟨k, hkl, rfl, HS⟩ := hrel
              obtain ⟨hi, hO, hS⟩ := HS.out
              have hcz : ∀ (m : Nat) (e : Int), L[m]? = some e → wr.cell? ⟨g, m, none⟩ = some (.int .i64 e) := fun m e he => by
                have hm := (List.getElem?_eq_some_iff.1 he).1
                obtain ⟨-, b', o', e1, e2⟩ := hO.rd.at hm
                simp only [Option.some.injEq, Addr.mk.injEq, and_true] at e1
                obtain ⟨rfl, rfl⟩ := e1
                rw [Nat.zero_add] at e2
                rw [e2, List.getD_eq_getElem?_getD, he]; rfl
              have z0 := cell_still hS G0.out
              have HB : Hid (_ ∧ _ ∧ _) := ⟨hi, hO, hS⟩
              clear HS hi hO hS x1
              rcases Nat.eq_zero_or_pos k with rfl | hpos
              · have HIN : Hid (∀ z ∈ L.take 0, z < p) := by simp [Hid]
                clear hcz
                rw [show ((0 : Nat) : Int) = 0 from rfl]
                go_wp2_with fail
                go_quiet (fail)
                revert nq; intro n1
                go_wp2_with fail
                go_quiet (fail)
                have SZ : Still w (wr.drewN (n1 + nq)) := Below.drewN HB.out.2.2 (n1 + nq)
                obtain ⟨v1, w1, v2, w2, r1, r2, s1, s2, r3⟩ := three (A := L.take 0) (B := L.drop 0) (u1 := .slice (some ⟨g, 0, none⟩) 0 cap) p SZ ((HB.out.2.1.rd.still (Below.drewN (Below.refl _ _) (n1 + nq))).take 0 (by omega) cap (by omega)) (by simp; omega)
                have hcan : L.take 0 ++ [p] ++ L.drop 0 = canon (pos cnt (X.take (n + 1))) := by
                  refine canon_eq (ins_at HR.out HIN.out HB.out.1) fun z => ?_
                  rw [HN.out, List.mem_append (s := pos cnt (X.take n)), ← mem_canon (pos cnt (X.take n)), ← HLD.out, List.mem_append, List.mem_append, List.mem_singleton]
                  constructor
                  · rintro ((h | h) | h)
                    · exact Or.inl (List.mem_of_mem_take h)
                    · exact Or.inr h
                    · exact Or.inl (List.mem_of_mem_drop h)
                  · rintro (h | h)
                    · rw [← List.take_append_drop 0 L] at h
                      rcases List.mem_append.1 h with h | h
                      · exact Or.inl (Or.inl h)
                      · exact Or.inr h
                    · exact Or.inl (Or.inr h)
                have q0 := cell_still (Still.then SZ s1) G0.out
                have hr1 : Hid (_ = _) := r1
                have hr2 : Hid (_ = _) := r2
                have hr3 : Hid (∀ u2, Rd (wr.drewN (n1 + nq)) u2 (L.drop 0) → _) := r3
                have HCAN : Hid (_ = _) := hcan
                have tok1 : True := trivial
                have tok2 : True := trivial
                clear r1 r2 r3 s1 s2 hcan
                go_wp2_with (first
                  | (at_builtin; clear tok1; refine wpList_append_run _ (by rfl) _ _ 24 24 (by rfl) _ _ (by rfl) (by rfl) _ _ hr1.out ?_)
                  | (at_builtin; clear tok2; refine wpList_append_run _ (by rfl) _ _ 24 24 (by rfl) _ _ (by rfl) (by rfl) _ _ hr2.out ?_)
                  | (at_builtin; refine wpList_append_ex _ (by rfl) _ _ 24 24 (by rfl) _ _ (by rfl) (by rfl) (hr3.out _ ((HB.out.2.1.rd.still (Below.drewN (Below.refl _ _) (n1 + nq))).drop 0 (by omega) _ (fun h => by first | rfl | (rw [if_neg (by omega)]) | (exfalso; omega)) _ (by first | rfl | omega | simp) _ (by omega))) ?_; intro v3 w3 HI))
                all_goals go_roundw
                case rel => exact ⟨n + 1, by omega, by go_num, by have := HI; rw [HCAN.out] at this; exact this⟩
                case measure => simp [intOf]; omega
              · obtain ⟨m, rfl⟩ : ∃ m, k = m + 1 := ⟨k - 1, by omega⟩
                obtain ⟨e, he⟩ : ∃ e, L[m]? = some e := ⟨L[m], by simp⟩
                have y0 := hcz m e he
                have j0 : (0 : Int) < (m : Int) + 1 := by omega
                have j1 : (0 : Int) ≤ (m : Int) := by omega
                have j2 : (m : Int) < (L.length : Int) := by omega
                have HE : Hid (L[m]? = some e) := he
                clear hcz hpos he
                rcases Int.lt_trichotomy e p with hl | rfl | hl
                · have HIN : Hid (∀ z ∈ L.take (m + 1), z < p) := take_lt HR.out HE.out hl
                  have t1 : decide (p < e) = false := by simp; omega
                  have t2 : (e == p) = false := by simp; omega
                  go_wp2_with fail
                  go_quiet (fail)
                  revert nq; intro n1
                  go_wp2_with fail
                  go_quiet (fail)
                  have SZ : Still w (wr.drewN (n1 + nq)) := Below.drewN HB.out.2.2 (n1 + nq)
                  obtain ⟨v1, w1, v2, w2, r1, r2, s1, s2, r3⟩ := three (A := L.take (m + 1)) (B := L.drop (m + 1)) (u1 := .slice (some ⟨g, 0, none⟩) (m + 1) cap) p SZ ((HB.out.2.1.rd.still (Below.drewN (Below.refl _ _) (n1 + nq))).take (m + 1) (by omega) cap (by omega)) (by simp; omega)
                  have hcan : L.take (m + 1) ++ [p] ++ L.drop (m + 1) = canon (pos cnt (X.take (n + 1))) := by
                    refine canon_eq (ins_at HR.out HIN.out HB.out.1) fun z => ?_
                    rw [HN.out, List.mem_append (s := pos cnt (X.take n)), ← mem_canon (pos cnt (X.take n)), ← HLD.out, List.mem_append, List.mem_append, List.mem_singleton]
                    constructor
                    · rintro ((h | h) | h)
                      · exact Or.inl (List.mem_of_mem_take h)
                      · exact Or.inr h
                      · exact Or.inl (List.mem_of_mem_drop h)
                    · rintro (h | h)
                      · rw [← List.take_append_drop (m + 1) L] at h
                        rcases List.mem_append.1 h with h | h
                        · exact Or.inl (Or.inl h)
                        · exact Or.inr h
                      · exact Or.inl (Or.inr h)
                  have q0 := cell_still (Still.then SZ s1) G0.out
                  have hr1 : Hid (_ = _) := r1
                  have hr2 : Hid (_ = _) := r2
                  have hr3 : Hid (∀ u2, Rd (wr.drewN (n1 + nq)) u2 (L.drop (m + 1)) → _) := r3
                  have HCAN : Hid (_ = _) := hcan
                  have tok1 : True := trivial
                  have tok2 : True := trivial
                  clear r1 r2 r3 s1 s2 hcan
                  go_wp2_with (first
                    | (at_builtin; clear tok1; refine wpList_append_run _ (by rfl) _ _ 24 24 (by rfl) _ _ (by rfl) (by rfl) _ _ hr1.out ?_)
                    | (at_builtin; clear tok2; refine wpList_append_run _ (by rfl) _ _ 24 24 (by rfl) _ _ (by rfl) (by rfl) _ _ hr2.out ?_)
                    | (at_builtin; refine wpList_append_ex _ (by rfl) _ _ 24 24 (by rfl) _ _ (by rfl) (by rfl) (hr3.out _ ((HB.out.2.1.rd.still (Below.drewN (Below.refl _ _) (n1 + nq))).drop (m + 1) (by omega) _ (fun h => by first | rfl | (rw [if_neg (by omega)]) | (exfalso; omega)) _ (by first | rfl | omega | simp) _ (by omega))) ?_; intro v3 w3 HI))
                  all_goals go_roundw
                  case rel => exact ⟨n + 1, by omega, by go_num, by have := HI; rw [HCAN.out] at this; exact this⟩
                  case measure => simp [intOf]; omega
                · have t1 : decide (e < e) = false := by simp
                  have t2 : (e == e) = true := by simp
                  have HI : Hid (canon (pos cnt (X.take (n + 1))) = L) := by
                    rw [HN.out]
                    refine (canon_eq HR.out fun z => ?_).symm
                    rw [List.mem_append, ← mem_canon (pos cnt (X.take n)), ← HLD.out, List.mem_singleton]
                    exact ⟨Or.inl, fun h => h.elim id fun h => by rw [h]; exact List.mem_of_getElem? HE.out⟩
                  go_wp2_with fail
                  go_quiet (fail)
                  revert nq; intro n1
                  go_wp2_with fail
                  go_quiet (fail)
                  go_wp2
                  go_roundw
                  case rel => exact ⟨n + 1, by omega, by go_num, by rw [HI.out]; exact HB.out.2.1, Below.drewN HB.out.2.2 _⟩
                  case measure => simp [intOf]; omega
                · have HGT : Hid (∀ z ∈ L.drop m, p < z) := drop_gt HE.out hl HB.out.1
                  have t1 : p < e := hl
                  go_wp2_with fail
                  go_quiet (fail)
                  go_wp2
                  go_roundw
                  case rel => exact ⟨m, by omega, by first | rfl | go_num, HGT.out, HB.out.2.1, Below.drewN HB.out.2.2 _⟩
                  case measure => simp [intOf]
    · have k1 : ¬ (n : Int) < (X.length : Int) := by omega
      have e : X.take n = X := List.take_of_length_le (by omega)
      rw [e] at HK
      go_wp2
      go_ret
      exact ⟨_, rfl, HK.out⟩

end Go.Proofs.Ytndcbpbigbjfeaa
