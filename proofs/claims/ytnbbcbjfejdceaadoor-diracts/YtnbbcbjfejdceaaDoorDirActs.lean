/-
  a directory under any calls: P9.1, R4: act by act; all entries behind each.
-/
import Derived.Test.YtnbbcbjfejdceaaDoorRows
import Derived.Test.YtnbbcbjfejdceaaDoorCards
import Derived.Test.YtnbbcbjfejdceaaDoorTie
import Derived.Test.YtnbbcbjfejdceaaDoorLaid
import Derived.Test.YtnbbcbjfejdceaaDoorMe
import Derived.WalkKit
import Derived.ProofKit
import Derived.OpenShut
import Derived.ShutString
import Derived.ChangeOld
import Derived.Below
import Derived.Deep.Slices
import Derived.LaidMore
import Derived.Lay
import Derived.SizedLaws
import Derived.Laws.BytesArg
import Derived.Stop.Joined
import Derived.SevenTiedAt
namespace Go.Proofs.YtnbbcbjfejdceaaDoor.dirActs
open Go.ChangeShapes Go.WideShapes Go.ChangeAt Go.RowKit
open Go.ChangeMaps (open_string shut_string)
set_option linter.unusedVariables false

/-- An act as it lies. -/
def ActAt (w : World) (B off i : Nat) (k c n : Int) (s t : ByteArray) : Prop := w.cell? ⟨B, off + i * 5, none⟩ = some (.int .i64 k) ∧ w.cell? ⟨B, off + i * 5 + 1, none⟩ = some (.int .i64 c) ∧ w.cell? ⟨B, off + i * 5 + 2, none⟩ = some (.int .i64 n) ∧ w.cell? ⟨B, off + i * 5 + 3, none⟩ = some (.string s) ∧ w.cell? ⟨B, off + i * 5 + 4, none⟩ = some (.string t)

theorem ActAt.kept {w w' : World} {B off i : Nat} {k c n : Int} {s t : ByteArray} (h : ActAt w B off i k c n s t) (hk : Kept [] w w') : ActAt w' B off i k c n s t :=
  ⟨hk.cell h.1 (by simp), hk.cell h.2.1 (by simp), hk.cell h.2.2.1 (by simp), hk.cell h.2.2.2.1 (by simp), hk.cell h.2.2.2.2 (by simp)⟩

/-- The acts as they lie. -/
def IsActs (w : World) (a : Option Addr) (len : Nat) : Prop :=
  len = 0 ∨ ∃ B off, ∃ K C M : Nat → Int, ∃ P Q : Nat → ByteArray, a = some ⟨B, off, none⟩ ∧ len ≤ 9223372036854775807 ∧ ∀ i, i < len → ActAt w B off i (K i) (C i) (M i) (P i) (Q i)

set_option maxRecDepth 100000 in
theorem acts_at {H : Type} {enc : TypeId × Value → H} {w : World} {base : Nat} {spare : Nat → Bool} {held : Bool} {fuel : Nat} {a : Option Addr} {len cap : Nat} {x : DataW H × List MemPlace}
    (h : DataW.trod enc Tryd.prog w base spare held fuel 22 [.slice a len cap] = some x) : IsActs w a len := by
  rcases Deep.open_slice Tryd.underlying22 h with ⟨hcs, _⟩ | ⟨a', len', cap', m, n, D, Pl, hcs, hb, hl, hm, hmm, _, hx⟩
  · simp at hcs
    exact Or.inl hcs.2.1
  · simp at hcs
    obtain ⟨rfl, rfl, rfl⟩ := hcs
    by_cases h0 : len = 0
    · exact Or.inl h0
    have hlm : len ≤ m := by rw [hmm]; split <;> omega
    have ce : Tryd.prog.cellsOf 32 = 5 := by kernel_rfl
    rw [ce] at hx
    have each : ∀ i, i < len → ∃ q : Int × Int × Int × ByteArray × ByteArray, w.cell? (a'.add (i * 5)) = some (.int .i64 q.1) ∧ w.cell? (a'.add (i * 5 + 1)) = some (.int .i64 q.2.1) ∧ w.cell? (a'.add (i * 5 + 2)) = some (.int .i64 q.2.2.1) ∧ w.cell? (a'.add (i * 5 + 3)) = some (.string q.2.2.2.1) ∧ w.cell? (a'.add (i * 5 + 4)) = some (.string q.2.2.2.2) := by
      intro i hi
      obtain ⟨cs', h1, h2⟩ := hx i (by omega)
      obtain ⟨_, hlen, hcell⟩ := World.cells?_some h1
      obtain ⟨xs, k, hk, hxy, _, hxl, hf⟩ := DataW.trod_struct Tryd.underlying32 h2
      match xs, hxl, cs', hlen with
      | [y0, y1, y2, y3, y4], _, [v0, v1, v2, v3, v4], _ =>
        have g0 := hf 0 _ rfl
        have g1 := hf 1 _ rfl
        have g2 := hf 2 _ rfl
        have g3 := hf 3 _ rfl
        have g4 := hf 4 _ rfl
        simp [show Tryd.prog.cellsOf 3 = 1 from by kernel_rfl, show Tryd.prog.cellsOf 9 = 1 from by kernel_rfl] at g0 g1 g2 g3 g4
        have e0 := hcell 0 (by omega)
        have e1 := hcell 1 (by omega)
        have e2 := hcell 2 (by omega)
        have e3 := hcell 3 (by omega)
        have e4 := hcell 4 (by omega)
        rw [Deep.add_add] at e0 e1 e2 e3 e4
        obtain ⟨z0, q0, -, -⟩ := DataW.trod_int Tryd.underlying3 g0
        obtain ⟨z1, q1, -, -⟩ := DataW.trod_int Tryd.underlying3 g1
        obtain ⟨z2, q2, -, -⟩ := DataW.trod_int Tryd.underlying3 g2
        obtain ⟨z3, q3, -, -⟩ := DataW.trod_string Tryd.underlying9 g3
        obtain ⟨z4, q4, -, -⟩ := DataW.trod_string Tryd.underlying9 g4
        simp at q0 q1 q2 q3 q4 e0 e1 e2 e3 e4
        subst q0 q1 q2 q3 q4
        exact ⟨(z0, z1, z2, z3, z4), e0, e1, e2, e3, e4⟩
    obtain ⟨q, hq⟩ := Deep.choose_lt (α := Int × Int × Int × ByteArray × ByteArray) each
    obtain ⟨B, off, spot⟩ := a'
    have hspot : spot = none := by simpa [Addr.add] using World.cell?_spot (hq 0 (by omega)).1
    subst hspot
    refine Or.inr ⟨B, off, fun i => (q i).1, fun i => (q i).2.1, fun i => (q i).2.2.1, fun i => (q i).2.2.2.1, fun i => (q i).2.2.2.2, rfl, by unfold maxLen at hm; omega, fun i hi => ?_⟩
    have := hq i hi
    simp only [add_plain] at this
    exact ⟨this.1, this.2.1, this.2.2.1, this.2.2.2.1, this.2.2.2.2⟩

theorem Md.old {I : Trc → Prop} {S : List (Nat × Obj)} {w0 w : World} {b g f k L N : Nat} {E0 : List En} {mb : Nat} {E : List En} (h : Md I S w0 w b g f k L N E0 mb E) : Kept [] w0 w := by
  obtain ⟨u, D, h1, h2, h3⟩ := h
  exact h2.old

/-- The parts of a list beside a directory, its row as a slice. -/
theorem Md.parts {I : Trc → Prop} {S : List (Nat × Obj)} {w0 w : World} {b g f k L N : Nat} {E0 : List En} {mb : Nat} {E : List En} (h : Md I S w0 w b g f k L N E0 mb E) : ∃ ua uc D, Oe (.slice ua E.length uc) E D ∧ Dd I (D ++ (mb, mbx (.slice ua E.length uc)) :: S) w0 w b g f k L N E0 ∧ (∀ x ∈ D, ∀ y ∈ (mb, mbx (.slice ua E.length uc)) :: S, y.1 ≠ x.1) ∧ (∀ y ∈ S, y.1 ≠ mb) ∧ (g, box b f) ∈ S := by
  obtain ⟨u, D, h1, h2, h3⟩ := h
  obtain ⟨ua, uc, rfl⟩ := h1.slice
  exact ⟨ua, uc, D, h1, h2, h3⟩

theorem Md.main {I : Trc → Prop} {S : List (Nat × Obj)} {w0 w : World} {b g f k L N : Nat} {E0 : List En} {mb : Nat} {E : List En} (h : Md I S w0 w b g f k L N E0 mb E) : Rise E0 ∧ (∀ x ∈ E0, chk x.1 = 0) ∧ E0.length ≤ 32 := by
  obtain ⟨u, D, h1, h2, h3⟩ := h
  exact ⟨h2.rise, fun x hx => h2.may hx, h2.few⟩

set_option maxRecDepth 100000 in
set_option maxHeartbeats 16000000 in
theorem main (a0 : Option Addr) (len0 cap0 : Nat) (w : World) (hT : Tab w) (ha : IsActs w a0 len0) :
    Calls Tryd.prog 3 #[.slice a0 len0 cap0] w fun e w' => e = .returned (.bool true) ∧ Kept [] w w' := by
  have HA : Hid (IsActs w a0 len0) := ha
  have HT : Hid (Tab w) := hT
  clear ha hT
  go_enter Tryd.func3, Tryd.ntmps3
  go_wp2_with fail
  refine (made_any w HT.out).mono ?_
  rintro e w2 ⟨b, g, rfl, h2⟩
  have H1 : Hid (Md AnyT [(g, box b 0)] w (w2.alloc (mbx (.slice none 0 0))) b g 0 4 1024 96 [] w2.heap.size []) := Md.start h2
  clear h2
  obtain ⟨mb, hmb⟩ : ∃ mb, w2.heap.size = mb := ⟨_, rfl⟩
  rw [hmb] at H1
  have HMB : Hid (_) := hmb
  clear hmb
  go_wp2_with fail
  rw [HMB.out]
  clear HMB
  go_loopw [7] (fun i wr => ∃ (r : Nat) (E : List En), i = .int .i64 (r : Int) ∧ r ≤ len0 ∧ r ≤ 120 ∧ Hid (Md AnyT [(g, box b 0)] w wr b g 0 4 1024 (96 + 126 * r) E mb E)) (fun i _ => (120 - intOf i).toNat)
  case atStart => exact ⟨0, [], rfl, by omega, by omega, H1.out⟩
  case round =>
    clear H1
    obtain ⟨r, E, rfl, hr, hr2, HJ⟩ := hrel
    by_cases hlt : r < len0 ∧ r < 120
    · obtain ⟨hlt, hlt2⟩ := hlt
      have i1 : (0 : Int) ≤ (r : Int) := by omega
      have i2 : (r : Int) < (len0 : Int) := by omega
      have i3 : (r : Int) < 120 := by omega
      rcases HA.out with h0 | ⟨B, off, K, C, M, P, Q, rfl, hl, hc⟩
      · omega
      clear HA
      obtain ⟨x0, x1, x2, x3, x4⟩ := (hc r hlt).kept (Md.old HJ.out)
      clear hc
      generalize K r = kd at x0
      generalize C r = cc at x1
      generalize M r = nn at x2
      generalize P r = s at x3
      generalize Q r = t at x4
      have HR : Hid (_ ∧ _ ∧ _) := Md.main HJ.out
      have HX : Hid (Md AnyT [(wr.heap.size, xob kd cc nn s t), (g, box b 0)] w (wr.alloc (xob kd cc nn s t)) b g 0 4 1024 (96 + 126 * r) E mb E) := Md.push HJ.out _
      obtain ⟨W0, h0⟩ : ∃ W0, W0 = wr.alloc (xob kd cc nn s t) := ⟨_, rfl⟩
      rw [← h0] at HX
      have hW0 : Hid (wr.alloc (.cells #[.int .i64 kd, .int .i64 cc, .int .i64 nn, .string s, .string t] 32 (0, 0)) = W0) := h0.symm
      clear h0 HJ
      go_upto_region 12 with fail
      rw [hW0.out]
      clear hW0 x0 x1 x2 x3 x4
      generalize wr.heap.size = X at *
      obtain ⟨y0, y1, y2, y3, y4⟩ := xob_cells (Md.at_ HX.out (List.mem_cons_self ..))
      obtain ⟨c, hc, hcc⟩ := core3 (r : Int)
      have HC : Hid (bits .and .i64 (r : Int) 3 = (c : Int)) := hcc
      clear hcc
      obtain ⟨v, z, E', hA⟩ := Ac.total E kd cc nn s t
      have HAc : Hid (Ac E kd cc nn s t v z E') := hA
      clear hA
      by_cases k5 : kd < 5
      · as_aux_lemma =>
          go_wp2_with fail
          obtain ⟨ua, uc, D, o1, o2, o3, o4, o5⟩ := Md.parts HX.out
          refine (p_insert o2 HAc.out k5 (by omega)).mono ?_
          rintro e w3 ⟨rfl, hv, h3⟩
          subst hv
          have H3 : Hid (Md AnyT [(X, xob kd cc nn s t), (g, box b 0)] w w3 b g 0 4 1024 (96 + 126 * r + 30) E' mb E) := ⟨_, D, o1, h3, o3, o4, o5⟩
          clear h3 o1 o2 o3 o4 o5 HX y0 y1 y2 y3 y4
          obtain ⟨y0, y1, y2, y3, y4⟩ := xob_cells (Md.at_ H3.out (List.mem_cons_self ..))
          go_wp2_with (first
            | (go_at_call 11; refine (num9 _ _).mono ?_; rintro e w' ⟨rfl, rfl⟩))
          refine (m_act H3.out HR.out.1 HR.out.2.1 (Nat.le_trans HR.out.2.2 (by omega)) HAc.out).mono ?_
          rintro e w4 ⟨rfl, h4⟩
          have H4 : Hid (Md AnyT [(X, xob kd cc nn s t), (g, box b 0)] w w4 b g 0 4 1024 (96 + 126 * r + 30) E' mb E') := h4
          clear h4 H3 y0 y1 y2 y3 y4 HAc HR
          have te : (z != z) = false := by simp
          go_wp2_with fail
          rw [HC.out]
          obtain ⟨ua, uc, D, o1, o2, o3, o4, o5⟩ := Md.parts H4.out
          refine (e_list (S := D ++ (mb, mbx (.slice ua E'.length uc)) :: [(X, xob kd cc nn s t), (g, box b 0)]) o2 c hc (fun n _ => anyR _ _ n) (by omega)).mono ?_
          rintro e w5 ⟨v5, D5, rfl, q1, q2, q3⟩
          have HL : Hid (E'.length ≤ 1000000) := Nat.le_trans o2.few (by omega)
          have c5 := (Dd.list q2 o1 (fun x hx => hx)).1
          have HU : Hid (Er 61 w5 0 v5 E' ∧ Er 61 w5 0 (.slice ua E'.length uc) E') := ⟨q1.own fun x hx => q2.at_ (by simp [hx]), o1.own fun x hx => q2.at_ (by simp [hx])⟩
          have HQ : Hid (_ ∧ _ ∧ _ ∧ _ ∧ _ ∧ _ ∧ _) := ⟨q1, q2, q3, o1, o3, o4, o5⟩
          clear q1 q2 q3 o1 o2 o3 o4 o5 H4
          go_wp2_with fail
          refine (same_entries HU.out.1 HU.out.2 HL.out true (by simp)).mono ?_
          rintro e w6 ⟨rfl, hk6⟩
          have HK : Hid (Er 61 w6 0 v5 E' ∧ Kept [] w5 w6) := ⟨HU.out.1.kept hk6 (by simp), hk6⟩
          clear hk6 HU c5
          go_wp2_with fail
          refine (spoil_entries HK.out.1 HL.out).mono ?_
          rintro e w7 ⟨rfl, hk7⟩
          have H7 : Hid (Md AnyT [(g, box b 0)] w w7 b g 0 4 1024 (96 + 126 * (r + 1)) E' mb E') := by
            obtain ⟨q1, q2, q3, o1, o3, o4, o5⟩ := HQ.out
            have h8 := Dd.let (Dd.still q2 HK.out.2) q1 (by simp) q3 hk7
            exact Md.mono (Md.less ⟨_, D, o1, h8, o3, o4, o5⟩ (by simp)) (by omega)
          clear HQ HK hk7
          go_wp2_with fail
          go_roundw
          case rel => exact ⟨r + 1, E', by go_num, by omega, by omega, H7.out⟩
          case measure => simp [intOf]; omega
      by_cases k7 : kd < 7
      · as_aux_lemma =>
          go_wp2_with fail
          obtain ⟨ua, uc, D, o1, o2, o3, o4, o5⟩ := Md.parts HX.out
          refine (p_remove o2 HAc.out (by omega) k7 (by omega)).mono ?_
          rintro e w3 ⟨rfl, hv, h3⟩
          subst hv
          have H3 : Hid (Md AnyT [(X, xob kd cc nn s t), (g, box b 0)] w w3 b g 0 4 1024 (96 + 126 * r + 30) E' mb E) := ⟨_, D, o1, h3, o3, o4, o5⟩
          clear h3 o1 o2 o3 o4 o5 HX y0 y1 y2 y3 y4
          obtain ⟨y0, y1, y2, y3, y4⟩ := xob_cells (Md.at_ H3.out (List.mem_cons_self ..))
          go_wp2_with (first
            | (go_at_call 11; refine (num9 _ _).mono ?_; rintro e w' ⟨rfl, rfl⟩))
          refine (m_act H3.out HR.out.1 HR.out.2.1 (Nat.le_trans HR.out.2.2 (by omega)) HAc.out).mono ?_
          rintro e w4 ⟨rfl, h4⟩
          have H4 : Hid (Md AnyT [(X, xob kd cc nn s t), (g, box b 0)] w w4 b g 0 4 1024 (96 + 126 * r + 30) E' mb E') := h4
          clear h4 H3 y0 y1 y2 y3 y4 HAc HR
          have te : (z != z) = false := by simp
          go_wp2_with fail
          rw [HC.out]
          obtain ⟨ua, uc, D, o1, o2, o3, o4, o5⟩ := Md.parts H4.out
          refine (e_list (S := D ++ (mb, mbx (.slice ua E'.length uc)) :: [(X, xob kd cc nn s t), (g, box b 0)]) o2 c hc (fun n _ => anyR _ _ n) (by omega)).mono ?_
          rintro e w5 ⟨v5, D5, rfl, q1, q2, q3⟩
          have HL : Hid (E'.length ≤ 1000000) := Nat.le_trans o2.few (by omega)
          have c5 := (Dd.list q2 o1 (fun x hx => hx)).1
          have HU : Hid (Er 61 w5 0 v5 E' ∧ Er 61 w5 0 (.slice ua E'.length uc) E') := ⟨q1.own fun x hx => q2.at_ (by simp [hx]), o1.own fun x hx => q2.at_ (by simp [hx])⟩
          have HQ : Hid (_ ∧ _ ∧ _ ∧ _ ∧ _ ∧ _ ∧ _) := ⟨q1, q2, q3, o1, o3, o4, o5⟩
          clear q1 q2 q3 o1 o2 o3 o4 o5 H4
          go_wp2_with fail
          refine (same_entries HU.out.1 HU.out.2 HL.out true (by simp)).mono ?_
          rintro e w6 ⟨rfl, hk6⟩
          have HK : Hid (Er 61 w6 0 v5 E' ∧ Kept [] w5 w6) := ⟨HU.out.1.kept hk6 (by simp), hk6⟩
          clear hk6 HU c5
          go_wp2_with fail
          refine (spoil_entries HK.out.1 HL.out).mono ?_
          rintro e w7 ⟨rfl, hk7⟩
          have H7 : Hid (Md AnyT [(g, box b 0)] w w7 b g 0 4 1024 (96 + 126 * (r + 1)) E' mb E') := by
            obtain ⟨q1, q2, q3, o1, o3, o4, o5⟩ := HQ.out
            have h8 := Dd.let (Dd.still q2 HK.out.2) q1 (by simp) q3 hk7
            exact Md.mono (Md.less ⟨_, D, o1, h8, o3, o4, o5⟩ (by simp)) (by omega)
          clear HQ HK hk7
          go_wp2_with fail
          go_roundw
          case rel => exact ⟨r + 1, E', by go_num, by omega, by omega, H7.out⟩
          case measure => simp [intOf]; omega
      by_cases k9 : kd < 9
      · as_aux_lemma =>
          go_wp2_with fail
          obtain ⟨ua, uc, D, o1, o2, o3, o4, o5⟩ := Md.parts HX.out
          refine (p_move o2 HAc.out (by omega) k9 (by omega)).mono ?_
          rintro e w3 ⟨rfl, hv, h3⟩
          subst hv
          have H3 : Hid (Md AnyT [(X, xob kd cc nn s t), (g, box b 0)] w w3 b g 0 4 1024 (96 + 126 * r + 30) E' mb E) := ⟨_, D, o1, h3, o3, o4, o5⟩
          clear h3 o1 o2 o3 o4 o5 HX y0 y1 y2 y3 y4
          obtain ⟨y0, y1, y2, y3, y4⟩ := xob_cells (Md.at_ H3.out (List.mem_cons_self ..))
          go_wp2_with (first
            | (go_at_call 11; refine (num9 _ _).mono ?_; rintro e w' ⟨rfl, rfl⟩))
          refine (m_act H3.out HR.out.1 HR.out.2.1 (Nat.le_trans HR.out.2.2 (by omega)) HAc.out).mono ?_
          rintro e w4 ⟨rfl, h4⟩
          have H4 : Hid (Md AnyT [(X, xob kd cc nn s t), (g, box b 0)] w w4 b g 0 4 1024 (96 + 126 * r + 30) E' mb E') := h4
          clear h4 H3 y0 y1 y2 y3 y4 HAc HR
          have te : (z != z) = false := by simp
          go_wp2_with fail
          rw [HC.out]
          obtain ⟨ua, uc, D, o1, o2, o3, o4, o5⟩ := Md.parts H4.out
          refine (e_list (S := D ++ (mb, mbx (.slice ua E'.length uc)) :: [(X, xob kd cc nn s t), (g, box b 0)]) o2 c hc (fun n _ => anyR _ _ n) (by omega)).mono ?_
          rintro e w5 ⟨v5, D5, rfl, q1, q2, q3⟩
          have HL : Hid (E'.length ≤ 1000000) := Nat.le_trans o2.few (by omega)
          have c5 := (Dd.list q2 o1 (fun x hx => hx)).1
          have HU : Hid (Er 61 w5 0 v5 E' ∧ Er 61 w5 0 (.slice ua E'.length uc) E') := ⟨q1.own fun x hx => q2.at_ (by simp [hx]), o1.own fun x hx => q2.at_ (by simp [hx])⟩
          have HQ : Hid (_ ∧ _ ∧ _ ∧ _ ∧ _ ∧ _ ∧ _) := ⟨q1, q2, q3, o1, o3, o4, o5⟩
          clear q1 q2 q3 o1 o2 o3 o4 o5 H4
          go_wp2_with fail
          refine (same_entries HU.out.1 HU.out.2 HL.out true (by simp)).mono ?_
          rintro e w6 ⟨rfl, hk6⟩
          have HK : Hid (Er 61 w6 0 v5 E' ∧ Kept [] w5 w6) := ⟨HU.out.1.kept hk6 (by simp), hk6⟩
          clear hk6 HU c5
          go_wp2_with fail
          refine (spoil_entries HK.out.1 HL.out).mono ?_
          rintro e w7 ⟨rfl, hk7⟩
          have H7 : Hid (Md AnyT [(g, box b 0)] w w7 b g 0 4 1024 (96 + 126 * (r + 1)) E' mb E') := by
            obtain ⟨q1, q2, q3, o1, o3, o4, o5⟩ := HQ.out
            have h8 := Dd.let (Dd.still q2 HK.out.2) q1 (by simp) q3 hk7
            exact Md.mono (Md.less ⟨_, D, o1, h8, o3, o4, o5⟩ (by simp)) (by omega)
          clear HQ HK hk7
          go_wp2_with fail
          go_roundw
          case rel => exact ⟨r + 1, E', by go_num, by omega, by omega, H7.out⟩
          case measure => simp [intOf]; omega
      by_cases k11 : kd < 11
      · as_aux_lemma =>
          go_wp2_with fail
          obtain ⟨ua, uc, D, o1, o2, o3, o4, o5⟩ := Md.parts HX.out
          refine (p_find o2 HAc.out (by omega) (by omega)).mono ?_
          rintro e w3 ⟨rfl, h3⟩
          have H3 : Hid (Md AnyT [(X, xob kd cc nn s t), (g, box b 0)] w w3 b g 0 4 1024 (96 + 126 * r + 30) E' mb E) := ⟨_, D, o1, h3, o3, o4, o5⟩
          clear h3 o1 o2 o3 o4 o5 HX y0 y1 y2 y3 y4
          obtain ⟨y0, y1, y2, y3, y4⟩ := xob_cells (Md.at_ H3.out (List.mem_cons_self ..))
          go_wp2_with (first
            | (go_at_call 11; refine (num9 _ _).mono ?_; rintro e w' ⟨rfl, rfl⟩))
          refine (m_act H3.out HR.out.1 HR.out.2.1 (Nat.le_trans HR.out.2.2 (by omega)) HAc.out).mono ?_
          rintro e w4 ⟨rfl, h4⟩
          have H4 : Hid (Md AnyT [(X, xob kd cc nn s t), (g, box b 0)] w w4 b g 0 4 1024 (96 + 126 * r + 30) E' mb E') := h4
          clear h4 H3 y0 y1 y2 y3 y4 HAc HR
          have te : (z != z) = false := by simp
          have te2 : (v != v) = false := by simp
          go_wp2_with fail
          rw [HC.out]
          obtain ⟨ua, uc, D, o1, o2, o3, o4, o5⟩ := Md.parts H4.out
          refine (e_list (S := D ++ (mb, mbx (.slice ua E'.length uc)) :: [(X, xob kd cc nn s t), (g, box b 0)]) o2 c hc (fun n _ => anyR _ _ n) (by omega)).mono ?_
          rintro e w5 ⟨v5, D5, rfl, q1, q2, q3⟩
          have HL : Hid (E'.length ≤ 1000000) := Nat.le_trans o2.few (by omega)
          have c5 := (Dd.list q2 o1 (fun x hx => hx)).1
          have HU : Hid (Er 61 w5 0 v5 E' ∧ Er 61 w5 0 (.slice ua E'.length uc) E') := ⟨q1.own fun x hx => q2.at_ (by simp [hx]), o1.own fun x hx => q2.at_ (by simp [hx])⟩
          have HQ : Hid (_ ∧ _ ∧ _ ∧ _ ∧ _ ∧ _ ∧ _) := ⟨q1, q2, q3, o1, o3, o4, o5⟩
          clear q1 q2 q3 o1 o2 o3 o4 o5 H4
          go_wp2_with fail
          refine (same_entries HU.out.1 HU.out.2 HL.out true (by simp)).mono ?_
          rintro e w6 ⟨rfl, hk6⟩
          have HK : Hid (Er 61 w6 0 v5 E' ∧ Kept [] w5 w6) := ⟨HU.out.1.kept hk6 (by simp), hk6⟩
          clear hk6 HU c5
          go_wp2_with fail
          refine (spoil_entries HK.out.1 HL.out).mono ?_
          rintro e w7 ⟨rfl, hk7⟩
          have H7 : Hid (Md AnyT [(g, box b 0)] w w7 b g 0 4 1024 (96 + 126 * (r + 1)) E' mb E') := by
            obtain ⟨q1, q2, q3, o1, o3, o4, o5⟩ := HQ.out
            have h8 := Dd.let (Dd.still q2 HK.out.2) q1 (by simp) q3 hk7
            exact Md.mono (Md.less ⟨_, D, o1, h8, o3, o4, o5⟩ (by simp)) (by omega)
          clear HQ HK hk7
          go_wp2_with fail
          go_roundw
          case rel => exact ⟨r + 1, E', by go_num, by omega, by omega, H7.out⟩
          case measure => simp [intOf]; omega
      as_aux_lemma =>
        go_wp2_with fail
        obtain ⟨ua, uc, D, o1, o2, o3, o4, o5⟩ := Md.parts HX.out
        refine (e_list_bad o2 4 (by omega)).mono ?_
        rintro e w3 ⟨rfl, hw⟩
        subst hw
        go_wp2_with fail
        refine (e_list_bad o2 (-1) (by omega)).mono ?_
        rintro e w4 ⟨rfl, hw⟩
        subst hw
        clear o1 o2 o3 o4 o5 HAc HR
        have H4 : Hid (_) := HX.out
        clear HX
        go_wp2_with fail
        rw [HC.out]
        obtain ⟨ua, uc, D, o1, o2, o3, o4, o5⟩ := Md.parts H4.out
        refine (e_list (S := D ++ (mb, mbx (.slice ua E.length uc)) :: [(X, xob kd cc nn s t), (g, box b 0)]) o2 c hc (fun n _ => anyR _ _ n) (by omega)).mono ?_
        rintro e w5 ⟨v5, D5, rfl, q1, q2, q3⟩
        have HL : Hid (E.length ≤ 1000000) := Nat.le_trans o2.few (by omega)
        have c5 := (Dd.list q2 o1 (fun x hx => hx)).1
        have HU : Hid (Er 61 w5 0 v5 E ∧ Er 61 w5 0 (.slice ua E.length uc) E) := ⟨q1.own fun x hx => q2.at_ (by simp [hx]), o1.own fun x hx => q2.at_ (by simp [hx])⟩
        have HQ : Hid (_ ∧ _ ∧ _ ∧ _ ∧ _ ∧ _ ∧ _) := ⟨q1, q2, q3, o1, o3, o4, o5⟩
        clear q1 q2 q3 o1 o2 o3 o4 o5 H4
        go_wp2_with fail
        refine (same_entries HU.out.1 HU.out.2 HL.out true (by simp)).mono ?_
        rintro e w6 ⟨rfl, hk6⟩
        have HK : Hid (Er 61 w6 0 v5 E ∧ Kept [] w5 w6) := ⟨HU.out.1.kept hk6 (by simp), hk6⟩
        clear hk6 HU c5
        go_wp2_with fail
        refine (spoil_entries HK.out.1 HL.out).mono ?_
        rintro e w7 ⟨rfl, hk7⟩
        have H7 : Hid (Md AnyT [(g, box b 0)] w w7 b g 0 4 1024 (96 + 126 * (r + 1)) E mb E) := by
          obtain ⟨q1, q2, q3, o1, o3, o4, o5⟩ := HQ.out
          have h8 := Dd.let (Dd.still q2 HK.out.2) q1 (by simp) q3 hk7
          exact Md.mono (Md.less ⟨_, D, o1, h8, o3, o4, o5⟩ (by simp)) (by omega)
        clear HQ HK hk7
        go_wp2_with fail
        go_roundw
        case rel => exact ⟨r + 1, E, by go_num, by omega, by omega, H7.out⟩
        case measure => simp [intOf]; omega
    · obtain ⟨ua, uc, D, o1, o2, o3, o4, o5⟩ := Md.parts HJ.out
      have o2' := o2.still (Kept.refl [] wr).drew
      have HO : Hid (Oe (.slice ua E.length uc) E D ∧ Dd AnyT ([] ++ (D ++ (mb, mbx (.slice ua E.length uc)) :: [(g, box b 0)])) w wr.drew b g 0 4 1024 (96 + 126 * r) E) := ⟨o1, o2'⟩
      have c0 := (Dd.list HO.out.2 HO.out.1 (fun x hx => hx)).1
      have HL : Hid (E.length ≤ 32) := o2.few
      clear HJ o1 o2 o3 o4 o5 o2'
      by_cases hx : r < len0
      · have i1 : (r : Int) < (len0 : Int) := by omega
        have i2 : ¬ (r : Int) < 120 := by omega
        go_wp2_with fail
        go_region_held3 (fun w' => w'.cell? ⟨mb, 0, none⟩ = some (.slice ua E.length uc)) (first | exact c0 | exact z1 | exact z2 | exact z3 | go_keep)
          (first
            | (go_at_call 15; refine (e_list HO.out.2 0 (by omega) (fun n _ => anyR _ _ n) (by omega)).mono ?_; rintro e w5 ⟨v5, D5, rfl, q1, q2, q3⟩; obtain ⟨va, vc, rfl⟩ := q1.slice; have z1 := (Dd.list q2 HO.out.1 (fun x hx => hx)).1)
            | (go_at_call 17; refine (same_entries (q1.own fun x hx => q2.at_ (by simp [hx])) (HO.out.1.own fun x hx => q2.at_ (by simp [hx])) (Nat.le_trans HL.out (by omega)) true (by simp)).mono ?_; rintro e w6 ⟨rfl, k6⟩; have z2 := k6.cell z1 (by simp))
            | (go_at_call 19; refine (awake_dir _ (Tab.kept q2.tabs k6)).mono ?_; rintro e w7 ⟨rfl, k7⟩; have z3 := k7.cell z2 (by simp)))
        have H9 : Hid (Kept [] w w7) := (q2.old.trans k6 (by simp)).trans k7 (by simp)
        clear q1 q2 q3 k6 k7 z1 z2 z3 c0
        go_wp2
        go_ret
        exact ⟨rfl, H9.out⟩
      · have i1 : ¬ (r : Int) < (len0 : Int) := by omega
        go_wp2_with fail
        go_region_held3 (fun w' => w'.cell? ⟨mb, 0, none⟩ = some (.slice ua E.length uc)) (first | exact c0 | exact z1 | exact z2 | exact z3 | go_keep)
          (first
            | (go_at_call 15; refine (e_list HO.out.2 0 (by omega) (fun n _ => anyR _ _ n) (by omega)).mono ?_; rintro e w5 ⟨v5, D5, rfl, q1, q2, q3⟩; obtain ⟨va, vc, rfl⟩ := q1.slice; have z1 := (Dd.list q2 HO.out.1 (fun x hx => hx)).1)
            | (go_at_call 17; refine (same_entries (q1.own fun x hx => q2.at_ (by simp [hx])) (HO.out.1.own fun x hx => q2.at_ (by simp [hx])) (Nat.le_trans HL.out (by omega)) true (by simp)).mono ?_; rintro e w6 ⟨rfl, k6⟩; have z2 := k6.cell z1 (by simp))
            | (go_at_call 19; refine (awake_dir _ (Tab.kept q2.tabs k6)).mono ?_; rintro e w7 ⟨rfl, k7⟩; have z3 := k7.cell z2 (by simp)))
        have H9 : Hid (Kept [] w w7) := (q2.old.trans k6 (by simp)).trans k7 (by simp)
        clear q1 q2 q3 k6 k7 z1 z2 z3 c0
        go_wp2
        go_ret
        exact ⟨rfl, H9.out⟩

theorem walk (a : Option Addr) (len cap : Nat) (w : World) (hT : Tab w) (ha : IsActs w a len) :
    Calls Tryd.prog 3 #[.slice a len cap] w fun e w' => e = .returned (.bool true) ∧ Below w.heap.size w w' :=
  (main a len cap w hT ha).mono fun e w' ⟨he, hk⟩ => ⟨he, hk.below (Nat.le_refl _) (by simp)⟩

set_option maxRecDepth 100000 in
theorem lifted (os : Os) (started : os.Started) (H : Type) (enc : TypeId × Value → H) :
    ReturnsInHanded {} Tryd.checked os 3 .any (fun w args => (Rows.dirActsSpec.pre enc Tryd.prog Tryd.f3 [] false w args ∧ laidMetH Tryd.prog laid2 w) ∧ sizedMet enc Tryd.prog Tryd.f3 (OpenSpec.ofChange Rows.dirActsSpec) false w args)
      (Rows.dirActsSpec.post enc Tryd.prog Tryd.f3 false true false false) := by
  refine returnsInHanded_of_change_and (C := Tryd.checked) (X := fun w _ => laidMetH Tryd.prog laid2 w) (fun _ _ _ hh h => h.of_heap hh) own started (by kernel_rfl) Tryd.func3
    (ChangeSpec.witness_shaped (enc := enc) (C := Tryd.checked) (os := os) (X := fun w _ => laidMetH Tryd.prog laid2 w) false (World.laidAll Tryd.prog os laid2) #[.slice none 0 0] 8 (World.laidAll_os _ _ _) (World.shaped_of_ZipB (by kernel_rfl) (by kernel_rfl)) (by kernel_rfl) (by kernel_rfl) (by kernel_rfl) (met_laid os _)) ?_
  intro W base args ds gs before hval0 hW _ hsz0 hL _
  have hsz : (DataW.weightsEach Tryd.prog (Tryd.f3.params.toList ++ Rows.dirActsSpec.plain.varTypes Tryd.prog) (ds ++ gs)).all (· ≤ reachBytes) = true := hsz0
  have hval : ∀ (j : Nat) t v, Tryd.f3.params[j]? = some t → args[j]? = some v → Value.okWide Tryd.prog W .any base t v := hval0
  have hW' := hW
  obtain ⟨p, q, hA0, hV, rfl, hfz, hnd⟩ := hW
  have hA : DataW.TrodAll enc Tryd.prog W 0 (fun _ => true) true Tryd.f3.params.toList args.toList ds p := hA0
  rw [Tryd.params3] at hA hval hsz
  obtain ⟨v0, vs0, d0, ds0, p0, q0, hargs, rfl, rfl, h0, r0⟩ := trodAll_cons hA
  obtain ⟨rfl, rfl, rfl⟩ := trodAll_nil r0
  obtain rfl : args = #[v0] := by cases args; simp_all
  obtain ⟨rfl, rfl⟩ := trodVars_none hV
  obtain ⟨a0, len0, cap0, rfl⟩ := okWide_slice Tryd.underlying22 (hval 0 22 v0 rfl rfl)
  have k0 := h0
  have lt0 : ∀ x ∈ p0, x.block < W.heap.size := by obtain ⟨m, hm⟩ := k0; exact DataW.trod_lt m _ _ _ hm
  have w0 : IsActs W a0 len0 := by
    obtain ⟨fuel, hf⟩ := h0
    exact acts_at hf
  clear hA0 hval0
  refine (walk a0 len0 cap0 W (of_laid hL) w0).mono fun e W' ⟨he, bel⟩ => ?_
  subst he
  exact ⟨_, rfl, _, _, _, [], _, [], hW', trodAll_mk1 (shut_bool Tryd.underlying4 _), (trodAll_cons_mk (Below.trod laidOut (by kernel_rfl) (of_decide_eq_true (by kernel_rfl)) k0 bel lt0) trodAll_mk0), rfl, bel.frame _, fun h => by cases h⟩

theorem over : Rows.dirActsRow.holds Tryd.pinned (OpenSpec.ofChange Rows.dirActsSpec) :=
  OpenClaim.holds_of_wide 3 Tryd.f3 rfl rfl rfl rfl rfl rfl rfl ⟨rfl, rfl, rfl, rfl, rfl⟩ rfl rfl rfl rfl rfl (by kernel_rfl) Tryd.func3 (by kernel_rfl)
    (of_decide_eq_true (by kernel_rfl)) (by unfold Func.isWrapper; first | (rw [if_pos (by decide +kernel)]; kernel_rfl) | (rw [if_neg (by decide +kernel)]; exact ⟨rfl, rfl⟩))
    (fun os started H enc _ => lifted os started H enc)

theorem card : Rows.DirActsCardSaid :=
  Claim7.holds_tied_plain_at .later [] [.data, .pinned] true (true, "b52752b4ad1ea57d169ecc7371ec3f9f9e5e71061f90f46f4a0915212379700a") true
    over (fun _ h => by cases h) (by kernel_rfl) (fun _ h => by cases h) dirActs_row_tie rfl ⟨rfl, rfl⟩ (by kernel_rfl) rfl
    (fun f fn hf hfn => by
      obtain rfl : f = 3 := Option.some.inj ((show Tryd.prog.funcNamed "concourse/concourselaw9.DirActs" = some 3 by kernel_rfl).symm.trans hf) |>.symm
      obtain rfl : fn = Tryd.f3 := (Option.some.inj (Tryd.func3.symm.trans hfn)).symm
      exact ⟨by kernel_rfl, fun j t ht => by
        rw [Tryd.params3] at ht
        have hm : t ∈ [22] := by simpa using Array.mem_of_getElem? ht
        have hall : ([22].all fun u => !Tryd.prog.wantsStandIn u) = true := by kernel_rfl
        exact (show Tryd.prog.wantsStandIn t = false by simpa using List.all_eq_true.1 hall t hm)⟩)
    (by kernel_rfl)

end Go.Proofs.YtnbbcbjfejdceaaDoor.dirActs

namespace Go.Proofs.YtnbbcbjfejdceaaDoor
theorem dirActs_holds : Rows.DirActsCardSaid := dirActs.card
#print axioms dirActs_holds
end Go.Proofs.YtnbbcbjfejdceaaDoor
