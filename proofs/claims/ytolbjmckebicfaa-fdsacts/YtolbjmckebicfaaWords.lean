/-
  The reference's Words: every word that it tells is one of the trace's.
-/
import Derived.Test.YtolbjmckebicfaaOwn
namespace Go.Proofs.Ytolbjmckebicfaa
open Go.RowKit

theorem wordAt_take (xs : List Int) (k i : Nat) (h : i < (xs.take k).length) : wordAt (xs.take k) i = wordAt xs i := by
  unfold wordAt
  simp only [List.length_take] at h
  simp only [List.getD, List.getElem?_take]
  rw [if_pos (by omega)]

theorem wordAt_drop (xs : List Int) (k i : Nat) : wordAt (xs.drop k) i = wordAt xs (k + i) := by
  unfold wordAt
  simp only [List.getD, List.getElem?_drop]

theorem Grew.kept {w0 w w' : World} {v v' : Value} (h : Kept [] w0 w) (g : Grew w w' v v') (hv : ∀ k, v.ownBlock = some k → w0.heap.size ≤ k) : Kept [] w0 w' := h.grown g.grown fun k hk => Or.inr (hv k hk)

theorem Own.new (w : World) {H : Nat} (hH : H ≤ w.heap.size) : Own (w.alloc (.cells #[] 3)) H (.slice (some ⟨w.heap.size, 0, none⟩) 0 0) [] := World.ownsRow_made w #[] 0 hH (by unfold maxLen; omega) (by simp)

theorem cell_one (w : World) (x : Int) : ∀ i, i < [x].length → (w.alloc (.cells #[.int .i64 x] 3)).cell? ⟨w.heap.size, 0 + i, none⟩ = some (.int .i64 (wordAt [x] i)) := by
  intro i hi
  have e := Go.heap_alloc_new w (.cells #[.int .i64 x] 3)
  have : i = 0 := by simp at hi; exact hi
  subst this
  exact cellB e

/-- What the three appends of an insertion make. -/
theorem insert_mem {w0 wr : World} {g n cap : Nat} {xs : List Int} (hK : Kept [] w0 wr) (ho : Own wr w0.heap.size (.slice (some ⟨g, 0, none⟩) n cap) xs) (k : Nat) (hk : k ≤ n) (x : Int) (hb : n ≤ 200000) :
    ∃ v1 w1, (Builtin.append_ #[33, 33] 33 #[.slice (some ⟨wr.heap.size, 0, none⟩) 0 0, .slice (some ⟨g, 0, none⟩) k cap]).run Try.prog (wr.alloc (.cells #[] 3)) = .ok v1 w1 ∧ Kept [] w0 w1 ∧
    ∃ v2 w2, (Builtin.append_ #[33, 33] 33 #[v1, .slice (some ⟨w1.heap.size, 0, none⟩) 1 1]).run Try.prog (w1.alloc (.cells #[.int .i64 x] 3)) = .ok v2 w2 ∧ Kept [] w0 w2 ∧
    ∃ v3 w3, (Builtin.append_ #[33, 33] 33 #[v2, .slice (if cap = k then some ⟨g, 0, none⟩ else some ⟨g, k, none⟩) (n - k) (cap - k)]).run Try.prog w2 = .ok v3 w3 ∧ Kept [] w0 w3 ∧ Own w3 w0.heap.size v3 (xs.take k ++ [x] ++ xs.drop k) := by
  obtain ⟨e1, e2, e3, e4⟩ := ho.lies
  have hs := hK.size
  have hgl := (ho.block g rfl).2
  have k0 : Kept [] wr (wr.alloc (.cells #[] 3)) := (Kept.refl _ _).alloc _
  obtain ⟨v1, w1, r1, o1, g1⟩ := append_row (Own.new wr hs) (by simp; omega) g 0 k cap (xs.take k) (by simp; omega) (fun i hi => by
    rw [wordAt_take _ _ _ hi, Nat.zero_add]
    exact k0.cell (e4 i (by simp at hi; omega)) (by simp)) (by simp; omega) 33
  have q1 : Kept [] wr w1 := Grew.kept k0 g1 (fun k hk => by simp [Value.ownBlock] at hk; omega)
  have s1 := q1.size
  have b1 : ∀ k, v1.ownBlock = some k → wr.heap.size ≤ k := fun k hk => by
    rcases g1.at_ k hk with h | h
    · simp [Value.ownBlock] at h; omega
    · simp at h; omega
  refine ⟨v1, w1, r1, hK.trans q1 (by simp), ?_⟩
  have k1 : Kept [] wr (w1.alloc (.cells #[.int .i64 x] 3)) := q1.alloc _
  obtain ⟨v2, w2, r2, o2, g2⟩ := append_row (o1.kept ((Kept.refl [] w1).alloc (.cells #[.int .i64 x] 3))) (by simp; omega) w1.heap.size 0 1 1 [x] rfl (cell_one w1 x) (by simp; omega) 33
  have q2 : Kept [] wr w2 := Grew.kept k1 g2 b1
  have s2 := q2.size
  have b2 : ∀ k, v2.ownBlock = some k → wr.heap.size ≤ k := fun k hk => by
    rcases g2.at_ k hk with h | h
    · exact b1 k h
    · simp at h; omega
  refine ⟨v2, w2, r2, hK.trans q2 (by simp), ?_⟩
  by_cases hck : cap = k
  · rw [if_pos hck]
    obtain ⟨v3, w3, r3, o3, g3⟩ := append_row o2 (by omega) g 0 (n - k) (cap - k) (xs.drop k) (by simp; omega) (fun i hi => by
      simp at hi; omega) (by simp; omega) 33
    exact ⟨v3, w3, r3, hK.trans (Grew.kept q2 g3 b2) (by simp), by simpa using o3⟩
  · rw [if_neg hck]
    obtain ⟨v3, w3, r3, o3, g3⟩ := append_row o2 (by omega) g k (n - k) (cap - k) (xs.drop k) (by simp; omega) (fun i hi => by
      rw [wordAt_drop]
      exact q2.cell (e4 (k + i) (by simp at hi; omega)) (by simp)) (by simp; omega) 33
    exact ⟨v3, w3, r3, hK.trans (Grew.kept q2 g3 b2) (by simp), by simpa using o3⟩

/-- .. and of the first one. -/
theorem insert_nil {w0 wr : World} (hK : Kept [] w0 wr) (x : Int) :
    (Builtin.append_ #[33, 33] 33 #[.slice (some ⟨wr.heap.size, 0, none⟩) 0 0, .slice none 0 0]).run Try.prog (wr.alloc (.cells #[] 3)) = .ok (.slice (some ⟨wr.heap.size, 0, none⟩) 0 0) (wr.alloc (.cells #[] 3)) ∧
    ∃ g n cap w2, (Builtin.append_ #[33, 33] 33 #[.slice (some ⟨wr.heap.size, 0, none⟩) 0 0, .slice (some ⟨wr.heap.size + 1, 0, none⟩) 1 1]).run Try.prog ((wr.alloc (.cells #[] 3)).alloc (.cells #[.int .i64 x] 3)) = .ok (.slice (some ⟨g, 0, none⟩) n cap) w2 ∧ Kept [] w0 w2 ∧
    (Builtin.append_ #[33, 33] 33 #[.slice (some ⟨g, 0, none⟩) n cap, .slice none 0 0]).run Try.prog w2 = .ok (.slice (some ⟨g, 0, none⟩) n cap) w2 ∧ Own w2 w0.heap.size (.slice (some ⟨g, 0, none⟩) n cap) [x] := by
  have hs := hK.size
  refine ⟨run_append_nil Try.underlying33 (by kernel_rfl) _ _ _ _ _ (Nat.le_refl _), ?_⟩
  have k0 : Kept [] wr (wr.alloc (.cells #[] 3)) := (Kept.refl _ _).alloc _
  have k1 := k0.alloc (.cells #[.int .i64 x] 3)
  have z1 : (wr.alloc (.cells #[] 3)).heap.size = wr.heap.size + 1 := by simp
  have hc := cell_one (wr.alloc (.cells #[] 3)) x
  rw [z1] at hc
  obtain ⟨v2, w2, r2, o2, g2⟩ := append_row ((Own.new wr hs).kept ((Kept.refl [] _).alloc (.cells #[.int .i64 x] 3))) (by simp; omega) (wr.heap.size + 1) 0 1 1 [x] rfl hc (by simp) 33
  have q2 : Kept [] wr w2 := Grew.kept k1 g2 (fun k hk => by simp [Value.ownBlock] at hk; omega)
  rcases o2.form with ⟨_, h2⟩ | ⟨g, cap, cur, hv, _, _, hle, _, _, _⟩
  · simp at h2
  · subst hv
    exact ⟨g, _, cap, w2, r2, hK.trans q2 (by simp), run_append_nil Try.underlying33 (by kernel_rfl) _ _ _ _ _ hle, by simpa using o2⟩

theorem build22 (w : World) : (Instr.buildSlice 33 0 #[]).run Try.prog w = .ok (.slice (some ⟨w.heap.size, 0, none⟩) 0 0) (w.alloc (.cells #[] 3)) := by kernel_rfl

/-- All words are the trace's. -/
def Of (t : List (Int × Bool)) (xs : List Int) : Prop := ∀ x ∈ xs, ∃ e ∈ t, x = e.1

theorem Of.insert {t : List (Int × Bool)} {xs : List Int} (h : Of t xs) (k : Nat) (x : Int) (hx : ∃ e ∈ t, x = e.1) : Of t (xs.take k ++ [x] ++ xs.drop k) := by
  intro y hy
  rcases List.mem_append.1 hy with h1 | h1
  · rcases List.mem_append.1 h1 with h2 | h2
    · exact h y (List.mem_of_mem_take h2)
    · rw [List.mem_singleton.1 h2]; exact hx
  · exact h y (List.mem_of_mem_drop h1)

theorem words_nil (w : World) : Calls Try.prog 15 #[.slice none 0 0, .bool false] w fun e w' => ∃ v xs, e = .returned v ∧ Own w' w.heap.size v xs ∧ Of [] xs ∧ xs.length ≤ 0 ∧ Kept [] w w' := by
  go_enter Try.func15, Try.ntmps15
  go_wp2_with fail
  go_loopw [5, 6] (fun o i wr => o = .slice none 0 0 ∧ i = .int .i64 0 ∧ wr = w) (fun _ _ _ => 0)
  case atStart => exact ⟨rfl, rfl, rfl⟩
  case round =>
    obtain ⟨rfl, rfl, rfl⟩ := hrel
    go_wp2
    go_ret
    exact ⟨_, [], rfl, Own.nil _ _, by simp [Of], by simp, Kept.refl _ _⟩

set_option maxRecDepth 100000 in
set_option maxHeartbeats 4000000 in
theorem words_some {w : World} {gt ct : Nat} {t : List (Int × Bool)} (hn : t.length ≤ 200000) (h1 : ∀ j u, (acc t)[j]? = some u → w.cell? ⟨gt, j, none⟩ = some u) :
    Calls Try.prog 15 #[.slice (some ⟨gt, 0, none⟩) t.length ct, .bool false] w fun e w' => ∃ v xs, e = .returned v ∧ Own w' w.heap.size v xs ∧ Of t xs ∧ xs.length ≤ t.length ∧ Kept [] w w' := by
  have hb0 := build22
  have HH : Hid (_) := h1
  clear h1
  go_enter Try.func15, Try.ntmps15
  go_wp2_with fail
  go_loopw [5, 6] (fun o i wr => ∃ n : Nat, n ≤ t.length ∧ i = .int .i64 (n : Int) ∧ Hid (∃ xs, Own wr w.heap.size o xs ∧ Of t xs ∧ xs.length ≤ n ∧ Kept [] w wr)) (fun _ i _ => (t.length - intOf i).toNat)
  case atStart => exact ⟨0, by omega, rfl, [], Own.nil _ _, by simp [Of], by simp, Kept.refl _ _⟩
  case round =>
    obtain ⟨n, hnn, rfl, HK⟩ := hrel
    obtain ⟨xs, hown, hof, hxl, hkw⟩ := HK.out
    by_cases hlt : n < t.length
    · have i0 : (0 : Int) ≤ (n : Int) := by omega
      have i1 : (n : Int) < (t.length : Int) := by omega
      obtain ⟨a0, a1⟩ := acc_get t n t[n] (List.getElem?_eq_getElem hlt)
      have hmem : ∃ e ∈ t, (t[n]).1 = e.1 := ⟨t[n], List.getElem_mem hlt, rfl⟩
      have x0 := hkw.cell (HH.out _ _ a0) (by simp)
      generalize (t[n]).1 = at_ at *
      have HA : Hid (w.cell? ⟨gt, n * 2, none⟩ = some (.int .i64 at_)) := HH.out _ _ a0
      rcases hown.form with ⟨hv, hx⟩ | ⟨g, cap, cur, hv, hg1, -, hle, -, -, -⟩
      · subst hv
        subst hx
        have HR : Hid (_ ∧ _ ∧ _) := ⟨hkw, hof, hmem⟩
        clear hkw hof hmem hown HK a0 a1 x0
        go_wp2_with fail
        go_loopw [7] (fun kk w2 => kk = .int .i64 0 ∧ Hid (Kept [] w w2)) (fun _ _ => 0)
        case atStart => exact ⟨rfl, HR.out.1⟩
        case round =>
          obtain ⟨rfl, HK2⟩ := hrel
          go_wp2_with fail
          go_quiet (fail)
          obtain ⟨q1, rfl⟩ : ∃ q, q = nq := ⟨_, rfl⟩
          go_wp2_with fail
          go_quiet (fail)
          obtain ⟨q2, rfl⟩ : ∃ q, q = nq := ⟨_, rfl⟩
          have hKW : Kept [] w ((wr.drewN q1).drewN q2) := (HK2.out.drewN q1).drewN q2
          obtain ⟨W, hW⟩ : ∃ W, W = (wr.drewN q1).drewN q2 := ⟨_, rfl⟩
          rw [← hW] at hKW ⊢
          clear hW
          obtain ⟨r1, g, m, cap, w2, r2, k2, r3, o3⟩ := insert_nil hKW at_
          have xW := (hKW.alloc (.cells #[] 3)).cell HA.out (by simp)
          have HN : Hid (_ ∧ _ ∧ _) := ⟨o3, Of.insert HR.out.2.1 0 at_ HR.out.2.2, k2⟩
          clear o3 k2 hKW
          have tok1 : True := trivial
          have tok2 : True := trivial
          have tok3 : True := trivial
          go_wp2_with (first
            | (at_builtin; clear tok1; refine wpList_append_run _ rfl _ _ 33 33 rfl (.slice (some ⟨W.heap.size, 0, none⟩) 0 0) (.slice none 0 0) rfl rfl _ _ r1 ?_)
            | (at_builtin; clear tok2; refine wpList_append_run _ rfl _ _ 33 33 rfl _ (.slice (some ⟨W.heap.size + 1, 0, none⟩) 1 1) rfl rfl _ _ r2 ?_)
            | (at_builtin; clear tok3; refine wpList_append_run _ rfl _ _ 33 33 rfl (.slice (some ⟨g, 0, none⟩) m cap) (.slice none 0 0) rfl rfl _ _ r3 ?_))
          go_roundw
          case rel => exact ⟨n + 1, by omega, by go_num, _, HN.out.1, HN.out.2.1, by simp, HN.out.2.2⟩
          case measure => simp [intOf]; omega
      · subst hv
        have HR : Hid (_ ∧ _ ∧ _) := ⟨hkw, hof, hmem⟩
        have HO : Hid (_) := hown
        clear hkw hof hmem hown HK a0 a1 x0
        go_wp2_with fail
        go_loopw [7] (fun kk w2 => ∃ k : Nat, k ≤ xs.length ∧ kk = .int .i64 (k : Int) ∧ Hid (Kept [] w w2 ∧ Own w2 w.heap.size (.slice (some ⟨g, 0, none⟩) xs.length cap) xs)) (fun kk _ => (intOf kk).toNat)
        case atStart => exact ⟨xs.length, by omega, rfl, HR.out.1, HO.out⟩
        case round =>
          obtain ⟨k, hk, rfl, HK2⟩ := hrel
          clear HO
          have x0 := HK2.out.1.cell HA.out (by simp)
          rcases k with _ | k
          · go_wp2_with fail
            go_quiet (fail)
            obtain ⟨q1, rfl⟩ : ∃ q, q = nq := ⟨_, rfl⟩
            go_wp2_with fail
            go_quiet (fail)
            obtain ⟨q2, rfl⟩ : ∃ q, q = nq := ⟨_, rfl⟩
            clear x0
            have hKW : Kept [] w ((wr.drewN q1).drewN q2) := (HK2.out.1.drewN q1).drewN q2
            obtain ⟨W, hW⟩ : ∃ W, W = (wr.drewN q1).drewN q2 := ⟨_, rfl⟩
            rw [← hW] at hKW ⊢
            have hoW : Own W w.heap.size (.slice (some ⟨g, 0, none⟩) xs.length cap) xs := by rw [hW]; exact (HK2.out.2.kept ((Kept.refl _ _).drewN q1)).kept ((Kept.refl _ _).drewN q2)
            clear hW
            obtain ⟨v1, w1, r1, k1, v2, w2, r2, k2, v3, w3, r3, k3, o3⟩ := insert_mem hKW hoW 0 (by omega) at_ (by omega)
            simp only [Nat.sub_zero, ite_self] at r3
            have xW := k1.cell HA.out (by simp)
            have HN : Hid (_ ∧ _ ∧ _) := ⟨o3, HR.out.2.1.insert 0 at_ HR.out.2.2, k3⟩
            clear o3 k1 k2 k3 hKW hoW
            have tok1 : True := trivial
            have tok2 : True := trivial
            have tok3 : True := trivial
            go_wp2_with (first
              | (at_builtin; clear tok1; refine wpList_append_run _ rfl _ _ 33 33 rfl _ (.slice (some ⟨g, 0, none⟩) 0 cap) rfl rfl _ _ r1 ?_)
              | (at_builtin; clear tok2; refine wpList_append_run _ rfl _ _ 33 33 rfl _ (.slice (some ⟨w1.heap.size, 0, none⟩) 1 1) rfl rfl _ _ r2 ?_)
              | (at_builtin; clear tok3; refine wpList_append_run _ rfl _ _ 33 33 rfl _ (.slice (some ⟨g, 0, none⟩) xs.length cap) rfl rfl _ _ r3 ?_))
            go_roundw
            case rel => exact ⟨n + 1, by omega, by go_num, _, HN.out.1, HN.out.2.1, by simp; omega, HN.out.2.2⟩
            case measure => simp [intOf]; omega
          · have c0 := HK2.out.2.lies.2.2.2 k (by omega)
            obtain ⟨y, hy⟩ : ∃ y, wordAt xs k = y := ⟨_, rfl⟩
            rw [hy] at c0
            clear hy
            have j0 : (0 : Int) ≤ (k : Int) := by omega
            have j1 : (k : Int) < (xs.length : Int) := by omega
            have j2 : (0 : Int) < ((k + 1 : Nat) : Int) := by omega
            by_cases hgt : at_ < y
            · go_wp2_with fail
              go_quiet (fail)
              go_wp2
              go_roundw
              case rel => exact ⟨k, by omega, by go_num, HK2.out.1.drewN nq, HK2.out.2.kept ((Kept.refl _ _).drewN nq)⟩
              case measure => simp [intOf]
            · by_cases heq : y = at_
              · subst heq
                have b1 : (y == y) = true := by simp
                go_wp2_with fail
                go_quiet (fail)
                obtain ⟨q1, rfl⟩ : ∃ q, q = nq := ⟨_, rfl⟩
                go_wp2_with fail
                go_quiet (fail)
                go_wp2
                go_roundw
                case rel => exact ⟨n + 1, by omega, by go_num, xs, HK2.out.2.kept ((Kept.refl _ _).drewN (q1 + nq)), HR.out.2.1, by omega, HK2.out.1.drewN (q1 + nq)⟩
                case measure => simp [intOf]; omega
              · have b1 : (y == at_) = false := by simpa using heq
                clear heq
                go_wp2_with fail
                go_quiet (fail)
                obtain ⟨q1, rfl⟩ : ∃ q, q = nq := ⟨_, rfl⟩
                go_wp2_with fail
                go_quiet (fail)
                obtain ⟨q2, rfl⟩ : ∃ q, q = nq := ⟨_, rfl⟩
                clear x0 c0
                have hKW : Kept [] w ((wr.drewN q1).drewN q2) := (HK2.out.1.drewN q1).drewN q2
                obtain ⟨W, hW⟩ : ∃ W, W = (wr.drewN q1).drewN q2 := ⟨_, rfl⟩
                rw [← hW] at hKW ⊢
                have hoW : Own W w.heap.size (.slice (some ⟨g, 0, none⟩) xs.length cap) xs := by rw [hW]; exact (HK2.out.2.kept ((Kept.refl _ _).drewN q1)).kept ((Kept.refl _ _).drewN q2)
                clear hW
                obtain ⟨v1, w1, r1, k1, v2, w2, r2, k2, v3, w3, r3, k3, o3⟩ := insert_mem hKW hoW (k + 1) (by omega) at_ (by omega)
                have xW := k1.cell HA.out (by simp)
                have HN : Hid (_ ∧ _ ∧ _) := ⟨o3, HR.out.2.1.insert (k + 1) at_ HR.out.2.2, k3⟩
                clear o3 k1 k2 k3 hKW hoW
                have tok1 : True := trivial
                have tok2 : True := trivial
                have tok3 : True := trivial
                go_wp2_with (first
                  | (at_builtin; clear tok1; refine wpList_append_run _ rfl _ _ 33 33 rfl _ (.slice (some ⟨g, 0, none⟩) (k + 1) cap) rfl rfl _ _ r1 ?_)
                  | (at_builtin; clear tok2; refine wpList_append_run _ rfl _ _ 33 33 rfl _ (.slice (some ⟨w1.heap.size, 0, none⟩) 1 1) rfl rfl _ _ r2 ?_)
                  | (at_builtin; clear tok3; refine wpList_append_run _ rfl _ _ 33 33 rfl _ (.slice (if cap = (k + 1) then some ⟨g, 0, none⟩ else some ⟨g, (k + 1), none⟩) (xs.length - (k + 1)) (cap - (k + 1))) rfl rfl _ _ r3 ?_))
                go_roundw
                case rel => exact ⟨n + 1, by omega, by go_num, _, HN.out.1, HN.out.2.1, by simp; omega, HN.out.2.2⟩
                case measure => simp [intOf]; omega
    · have i1 : ¬ (n : Int) < (t.length : Int) := by omega
      have HR : Hid (_) := show ∃ v xs, u5 = v ∧ Own wr w.heap.size v xs ∧ Of t xs ∧ xs.length ≤ t.length ∧ Kept [] w wr from ⟨u5, xs, rfl, hown, hof, by omega, hkw⟩
      clear hown hof hkw hxl HK
      go_wp2
      go_ret
      obtain ⟨v, ys, rfl, o1, o2, o3, o4⟩ := HR.out
      exact ⟨u5, rfl, ys, o1, o2, o3, o4⟩

/-- All words of a trace. -/
theorem wordsOf_any {w : World} {u : Value} {t : List (Int × Bool)} (h : Row w u t) (hn : t.length ≤ 200000) :
    Calls Try.prog 15 #[u, .bool false] w fun e w' => ∃ v xs, e = .returned v ∧ Own w' w.heap.size v xs ∧ Of t xs ∧ xs.length ≤ t.length ∧ Kept [] w w' := by
  by_cases ht : t = []
  · have hu := h.2 ht
    subst hu
    subst ht
    exact words_nil w
  · obtain ⟨g, cap, rfl, _, _, hc⟩ := h.form ht
    exact words_some hn hc

end Go.Proofs.Ytolbjmckebicfaa
