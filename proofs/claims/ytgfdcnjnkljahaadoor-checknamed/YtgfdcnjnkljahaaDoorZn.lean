/-
  What is wrong with a state: State.
-/
import Derived.Test.YtgfdcnjnkljahaaDoorZh
import Derived.Test.YtgfdcnjnkljahaaDoorZi
import Derived.Test.YtgfdcnjnkljahaaDoorZl
import Derived.Test.YtgfdcnjnkljahaaDoorZm
namespace Go.Proofs.YtgfdcnjnkljahaaDoor
open Go.RowKit Go.Lib Go.Maps
set_option linter.unusedVariables false

theorem numsL_len : ∀ (L : List Ino) (pv : Option Int) (T : List Fi) (m : Nat), T.length ≤ m → (numsL L pv T).length ≤ m + L.length := by
  intro L
  induction L with
  | nil => intro pv T m h; exact h
  | cons x L ih =>
    intro pv T m h
    rw [numsL]
    have := ih (some x.num) _ (m + 1) (pushF_len (b := badN x pv) (f := ⟨1, x.num, ⟨#[]⟩⟩) h)
    simp only [List.length_cons]
    omega

theorem inodesL_len {g : Int → Option Int} : ∀ (L : List Ino) (T : List Fi) (m : Nat), (∀ x ∈ L, x.ents.length ≤ 100) → T.length ≤ m → (inodesL g L T).length ≤ m + 202 * L.length := by
  intro L
  induction L with
  | nil => intro T m _ h; exact h
  | cons x L ih =>
    intro T m he h
    rw [inodesL]
    have h1 := pushF_len (b := badC x) (f := ⟨6, x.num, ⟨#[]⟩⟩) h
    have h2 := namesR_len (g := g) (x := x) h1 (he x (by simp))
    have := ih _ (m + 1 + 201) (fun y hy => he y (List.mem_cons_of_mem _ hy)) h2
    simp only [List.length_cons]
    omega

theorem holdsL_len {S : Sta} : ∀ (L : List Ino) (i : Nat) (T : List Fi) (m : Nat), T.length ≤ m → (holdsL S L i T).length ≤ m + 2 * L.length := by
  intro L
  induction L with
  | nil => intro i T m h; exact h
  | cons x L ih =>
    intro i T m h
    rw [holdsL]
    have := ih (i + 1) _ (m + 2) (pushF_len (b := badP (opensG S) ((foundL S).getD i true) x) (f := ⟨4, x.num, ⟨#[]⟩⟩) (pushF_len (b := badL (entriesG S) x) (f := ⟨3, x.num, ⟨#[]⟩⟩) h))
    simp only [List.length_cons]
    omega

theorem givenL_len {S : Sta} : ∀ (L : List Ino) (T : List Fi) (m : Nat), T.length ≤ m → (givenL S L T).length ≤ m + L.length := by
  intro L
  induction L with
  | nil => intro T m h; exact h
  | cons x L ih =>
    intro T m h
    rw [givenL]
    have := ih _ (m + 1) (pushF_len (b := !(x.num == 1) && !givenR S x.num) (f := ⟨8, x.num, ⟨#[]⟩⟩) h)
    simp only [List.length_cons]
    omega

theorem openL_len {S : Sta} : ∀ (D : List Ds) (pv : Option Ds) (T : List Fi) (m : Nat), T.length ≤ m → (openL S D pv T).length ≤ m + D.length := by
  intro D
  induction D with
  | nil => intro pv T m h; exact h
  | cons x D ih =>
    intro pv T m h
    rw [openL]
    have := ih (some x) _ (m + 1) (pushF_len (b := badD S x pv) (f := ⟨9, x.2.2, ⟨#[]⟩⟩) h)
    simp only [List.length_cons]
    omega

/-- A look that was made is in the middle of its work. -/
theorem Lk.begins {U w : World} {h : Wh} {p : Pl} {S : Sta} {n : Nat} (a : Lk U w h p S n (placeG S) (entriesG S) (opensG S) (foundL S)) (hs : Sv U p S) : Md U h p S n w w (.slice none 0 0) [] :=
  ⟨a, hs, Kept.refl _ _, by simp, a.blk, World.ownsRow_nil _ _ _ _, fun k hk => by cases hk⟩

theorem Fr.low {H H' : Nat} {w : World} {v : Value} {M : List Fi} (h : Fr H w v M) (hH : H' ≤ H) : Fr H' w v M := by
  refine ⟨h.1, ?_⟩
  rcases h.2 with hn | ⟨g, cap, cur, rfl, hb, rest⟩
  · exact .inl hn
  · exact .inr ⟨g, cap, cur, rfl, Nat.le_trans hH hb, rest⟩

set_option maxRecDepth 100000 in
set_option maxHeartbeats 16000000 in
theorem p_State {w : World} {p : Pl} {S : Sta} (hs : Sv w p S) (hT : Tab w) (hf : Few S) (hfl : (foundL S).length = S.ino.length) (hn : ∀ f ∈ heapR S, f.name.size ≤ 140737488351232) :
    Calls Tryd.prog 11 #[sval p S] w fun e w' => ∃ vr, e = .returned vr ∧ Fr w.heap.size w' vr (findR S) ∧ Kept [] w w' := by
  obtain ⟨a1, c1, a2, c2, a3, c3⟩ := p
  obtain ⟨V, Y, HVY, kv, b1⟩ := one_box w #[.slice a1 S.ino.length c1, .slice a2 S.opn.length c2, .slice a3 S.made.length c3] 27
  have y0 : V.cell? ⟨Y, 0, none⟩ = some (.slice a1 S.ino.length c1) := cellB b1
  have y1 : V.cell? ⟨Y, 1, none⟩ = some (.slice a2 S.opn.length c2) := cellB b1
  have y2 : V.cell? ⟨Y, 2, none⟩ = some (.slice a3 S.made.length c3) := cellB b1
  have hS2 := hs.kept kv
  have HS : Hid (Sv V ⟨a1, c1, a2, c2, a3, c3⟩ S) := hS2
  have HNew : Hid (_) := t_newLook hS2 hf
  have HF : Hid (Few S) := hf
  have HT : Hid (Tab V) := hT.kept kv
  have HKv : Hid (Kept [] w V) := kv
  have HFl : Hid (_) := hfl
  have HN : Hid (_) := hn
  have hl1 : (numsR S []).length ≤ 101 + 100 := by
    have h2 := hf.n1
    have := numsL_len S.ino none (if badRoot S then pushF [] ⟨1, 1, ⟨#[]⟩⟩ else []) 1 (pushF_len (m := 0) (by simp))
    unfold numsR; omega
  have hl2 : (inodesR S (numsR S [])).length ≤ 201 + 20200 := by
    have h2 := hf.n1
    have := inodesL_len (g := placeG S) S.ino (numsR S []) 201 (fun x hx => hf.e1 x hx) hl1
    unfold inodesR; omega
  have hl3 : (holdsR S (inodesR S (numsR S []))).length ≤ 20401 + 200 := by
    have h2 := hf.n1
    have := holdsL_len (S := S) S.ino 0 _ 20401 hl2
    unfold holdsR; omega
  have hl4 : (madeR S (holdsR S (inodesR S (numsR S [])))).length ≤ 20601 + 201 := by
    have h2 := hf.n1
    have h3 := hf.n3
    have h4 := madeL_len S.made 0 _ 20602 (pushF_len (b := decide (S.made.length < 1) || decide (8 < S.made.length)) (f := ⟨8, -1, ⟨#[]⟩⟩) hl3)
    have := givenL_len (S := S) S.ino _ _ h4
    unfold madeR; omega
  have hl5 : (heapR S).length ≤ 20802 + 100 := by
    have h2 := hf.n2
    have := openL_len (S := S) S.opn none _ _ hl4
    unfold heapR openR; omega
  obtain ⟨L1, hL1⟩ : ∃ L1, L1 = numsR S [] := ⟨_, rfl⟩
  obtain ⟨L2, hL2⟩ : ∃ L2, L2 = inodesR S L1 := ⟨_, rfl⟩
  obtain ⟨L3, hL3⟩ : ∃ L3, L3 = holdsR S L2 := ⟨_, rfl⟩
  obtain ⟨L4, hL4⟩ : ∃ L4, L4 = madeR S L3 := ⟨_, rfl⟩
  obtain ⟨L5, hL5⟩ : ∃ L5, L5 = openR S L4 := ⟨_, rfl⟩
  have hh : heapR S = L5 := by rw [hL5, hL4, hL3, hL2, hL1]; rfl
  have hr : findR S = rowF (L5.length + 1) L5 [] := by unfold findR; rw [hh]
  rw [← hL1] at hl1
  rw [← hL1, ← hL2] at hl2
  rw [← hL1, ← hL2, ← hL3] at hl3
  rw [← hL1, ← hL2, ← hL3, ← hL4] at hl4
  rw [hh] at hl5 HN
  rw [hr]
  have H1 : Hid (_) := hL1
  have H2 : Hid (_) := hL2
  have H3 : Hid (_) := hL3
  have H4 : Hid (_) := hL4
  have H5 : Hid (_) := hL5
  clear hs hT hf kv b1 hS2 hfl hn hh hr hL1 hL2 hL3 hL4 hL5
  go_enter Tryd.func11, Tryd.ntmps11
  go_upto_region 1 with fail
  rw [HVY.out.1, HVY.out.2]
  go_wp2_with fail
  refine Calls.mono HNew.out ?_
  rintro e w1 ⟨h, U, n, rfl, kU, lk⟩
  have HM0 : Hid (_) := lk.begins (HS.out.kept kU)
  have HT2 : Hid (Tab U) := HT.out.kept kU
  have HKU : Hid (Kept [] w U) := HKv.out.trans kU (by simp)
  have HX : Hid (U.heap.size ≤ h.X) := lk.ok.x0
  clear HNew kU lk HS HT HKv y0 y1 y2
  go_wp2_with fail
  refine (d_nums HM0.out HF.out (by simp)).mono ?_
  rintro e w2 ⟨rfl, v2, h2⟩
  rw [← H1.out] at h2
  have HM2 : Hid (_) := h2
  clear h2 HM0
  go_wp2_with fail
  refine (d_inodes HM2.out HT2.out HF.out (by omega)).mono ?_
  rintro e w3 ⟨rfl, v3, h3⟩
  rw [← H2.out] at h3
  have HM3 : Hid (_) := h3
  clear h3 HM2
  go_wp2_with fail
  refine (d_holds HM3.out HF.out HFl.out (by omega)).mono ?_
  rintro e w4 ⟨rfl, v4, h4⟩
  rw [← H3.out] at h4
  have HM4 : Hid (_) := h4
  clear h4 HM3
  go_wp2_with fail
  refine (d_made HM4.out HF.out (by omega)).mono ?_
  rintro e w5 ⟨rfl, v5, h5⟩
  rw [← H4.out] at h5
  have HM5 : Hid (_) := h5
  clear h5 HM4
  go_wp2_with fail
  refine (d_open HM5.out HF.out (by omega)).mono ?_
  rintro e w6 ⟨rfl, v6, h6⟩
  rw [← H5.out] at h6
  have HM6 : Hid (_) := h6
  clear h6 HM5
  go_wp2_with fail
  refine (t_inRow HM6.out.tl (by omega) HN.out).mono ?_
  rintro e w7 ⟨vr, rfl, h7, k7⟩
  have HF7 : Hid (Fr w6.heap.size w7 vr (rowF (L5.length + 1) L5 [])) := h7
  have HK7 : Hid (_) := k7
  clear h7 k7
  go_wp2_with fail
  go_ret
  refine ⟨_, rfl, ?_, ?_⟩
  · exact Fr.low HF7.out (Nat.le_trans HKU.out.size HM6.out.kU.size)
  · refine (HKU.out.trans HM6.out.kU (by simp)).trans HK7.out (fun x hx => Or.inr ?_)
    have hz := HKU.out.size
    have hx0 := HX.out
    rcases List.mem_cons.1 hx with rfl | hx
    · omega
    · rcases (HM6.out.tl.own x (by simpa using hx)).2 with h1 | h1
      · simp at h1; subst h1; omega
      · have := HM6.out.lk.kept.size; omega

end Go.Proofs.YtgfdcnjnkljahaaDoor
