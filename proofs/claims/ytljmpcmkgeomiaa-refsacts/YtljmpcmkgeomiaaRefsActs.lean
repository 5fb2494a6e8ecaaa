/-
  Counts with a part for each core under any calls are as plain counts.
-/
import Derived.Test.YtljmpcmkgeomiaaRows
import Derived.Test.YtljmpcmkgeomiaaJoint
import Derived.WalkKit
import Derived.ProofKit
import Derived.OpenShut
import Derived.ShutString
import Derived.ChangeOld
import Derived.Below
import Derived.Deep.Slices
import Derived.Deep.CutRange
import Derived.Deep.CutBlock
import Derived.BigRegion
namespace Go.Proofs.Ytljmpcmkgeomiaa.refsActs
open Go.ChangeShapes Go.WideShapes Go.ChangeAt Go.RowKit
open Go.ChangeMaps (open_string shut_string)
set_option linter.unusedVariables false

theorem own : ownKnob Try.prog.godebug = none := by kernel_rfl
theorem laidOut : laidOutB Try.prog = true := by kernel_rfl

/-- An act as it lies. -/
def ActAt (w : World) (B off i : Nat) (k c t : Int) : Prop := w.cell? ⟨B, off + i * 3, none⟩ = some (.int .i64 k) ∧ w.cell? ⟨B, off + i * 3 + 1, none⟩ = some (.int .i64 c) ∧ w.cell? ⟨B, off + i * 3 + 2, none⟩ = some (.int .i64 t)

theorem ActAt.kept {w w' : World} {B off i : Nat} {k c t : Int} (h : ActAt w B off i k c t) (hk : Kept [] w w') : ActAt w' B off i k c t :=
  ⟨hk.cell h.1 (by simp), hk.cell h.2.1 (by simp), hk.cell h.2.2 (by simp)⟩

/-- The acts as they lie. -/
def IsActs (w : World) (a : Option Addr) (len : Nat) : Prop :=
  len = 0 ∨ ∃ B off, ∃ K C T : Nat → Int, a = some ⟨B, off, none⟩ ∧ len ≤ 9223372036854775807 ∧ ∀ i, i < len → ActAt w B off i (K i) (C i) (T i)

theorem acts_at {H : Type} {enc : TypeId × Value → H} {w : World} {base : Nat} {spare : Nat → Bool} {held : Bool} {fuel : Nat} {a : Option Addr} {len cap : Nat} {x : DataW H × List MemPlace}
    (h : DataW.trod enc Try.prog w base spare held fuel 22 [.slice a len cap] = some x) : IsActs w a len := by
  rcases Deep.open_slice Try.underlying22 h with ⟨hcs, _⟩ | ⟨a', len', cap', m, n, D, Pl, hcs, hb, hl, hm, hmm, _, hx⟩
  · simp at hcs
    exact Or.inl hcs.2.1
  · simp at hcs
    obtain ⟨rfl, rfl, rfl⟩ := hcs
    by_cases h0 : len = 0
    · exact Or.inl h0
    have hlm : len ≤ m := by rw [hmm]; split <;> omega
    have ce : Try.prog.cellsOf 38 = 3 := by kernel_rfl
    rw [ce] at hx
    have each : ∀ i, i < len → ∃ q : Int × Int × Int, w.cell? (a'.add (i * 3)) = some (.int .i64 q.1) ∧ w.cell? (a'.add (i * 3 + 1)) = some (.int .i64 q.2.1) ∧ w.cell? (a'.add (i * 3 + 2)) = some (.int .i64 q.2.2) := by
      intro i hi
      obtain ⟨cs', h1, h2⟩ := hx i (by omega)
      obtain ⟨_, hlen, hcell⟩ := World.cells?_some h1
      obtain ⟨xs, k, hk, hxy, _, hxl, hf⟩ := DataW.trod_struct Try.underlying38 h2
      match xs, hxl, cs', hlen with
      | [y0, y1, y2], _, [v0, v1, v2], _ =>
        have g0 := hf 0 _ rfl
        have g1 := hf 1 _ rfl
        have g2 := hf 2 _ rfl
        simp [show Try.prog.cellsOf 3 = 1 from by kernel_rfl] at g0 g1 g2
        have e0 := hcell 0 (by omega)
        have e1 := hcell 1 (by omega)
        have e2 := hcell 2 (by omega)
        rw [Deep.add_add] at e0 e1 e2
        obtain ⟨z0, q0, -, -⟩ := DataW.trod_int Try.underlying3 g0
        obtain ⟨z1, q1, -, -⟩ := DataW.trod_int Try.underlying3 g1
        obtain ⟨z2, q2, -, -⟩ := DataW.trod_int Try.underlying3 g2
        simp at q0 q1 q2 e0 e1 e2
        subst q0 q1 q2
        exact ⟨(z0, z1, z2), e0, e1, e2⟩
    obtain ⟨q, hq⟩ := Deep.choose_lt (α := Int × Int × Int) each
    obtain ⟨B, off, spot⟩ := a'
    have hspot : spot = none := by simpa [Addr.add] using World.cell?_spot (hq 0 (by omega)).1
    subst hspot
    refine Or.inr ⟨B, off, fun i => (q i).1, fun i => (q i).2.1, fun i => (q i).2.2, rfl, by unfold maxLen at hm; omega, fun i hi => ?_⟩
    have := hq i hi
    simp only [add_plain] at this
    exact ⟨this.1, this.2.1, this.2.2⟩

theorem cell_of {w : World} {X i : Nat} {cs : Array Value} {t : TypeId} {v : Value} (h : w.heap[X]? = some (.cells cs t (0, 0))) (hv : cs[i]? = some v) : w.cell? ⟨X, i, none⟩ = some v := by
  simp [World.cell?, h, hv]

/-- An act in its block. -/
def xo (kd cc oo : Int) : Obj := .cells #[.int .i64 kd, .int .i64 cc, .int .i64 oo] 38 (0, 0)

theorem Jx.act {w0 w : World} {b g k n L N : Nat} {p : Nat → Nat} {m m2 : Mo} {X : Nat} {kd cc oo : Int} (h : Jx w0 w b g k n L N p m m2 X (xo kd cc oo)) : w.cell? ⟨X, 0, none⟩ = some (.int .i64 kd) ∧ w.cell? ⟨X, 1, none⟩ = some (.int .i64 cc) ∧ w.cell? ⟨X, 2, none⟩ = some (.int .i64 oo) := by
  have h1 : w.heap[X]? = some (xo kd cc oo) := h.refs.at_ (x := (X, xo kd cc oo)) (List.mem_cons_self ..)
  exact ⟨cell_of h1 rfl, cell_of h1 rfl, cell_of h1 rfl⟩

section
variable {P : Nat → Nat → Prop} {S : List (Nat × Obj)} {w0 w : World} {b g f n k L N : Nat} {m : Mo}

theorem m_inc_noobj (h : Rm P S w0 w b g f n k L N m) (c : Nat) (o : Int) (hc : c < k) (ho : o < 0 ∨ (n : Int) ≤ o) :
    Calls Try.prog 10 #[.pointer (some ⟨g, 0, none⟩), .int .i64 (c : Int), .int .i64 o] w fun e w' => e = .returned (.int .i64 601) ∧ w' = w := by
  obtain ⟨W, h1, h2⟩ := h
  exact r_inc_noobj h1 c o hc ho

theorem m_dec_noobj (h : Rm P S w0 w b g f n k L N m) (c : Nat) (o : Int) (hc : c < k) (ho : o < 0 ∨ (n : Int) ≤ o) :
    Calls Try.prog 11 #[.pointer (some ⟨g, 0, none⟩), .int .i64 (c : Int), .int .i64 o] w fun e w' => e = .returned (.int .i64 601) ∧ w' = w := by
  obtain ⟨W, h1, h2⟩ := h
  exact r_dec_noobj h1 c o hc ho

theorem m_dec_nocore (h : Rm P S w0 w b g f n k L N m) (c o : Int) (hc : c < 0 ∨ (k : Int) ≤ c) :
    Calls Try.prog 11 #[.pointer (some ⟨g, 0, none⟩), .int .i64 c, .int .i64 o] w fun e w' => e = .returned (.int .i64 600) ∧ w' = w := by
  obtain ⟨W, h1, h2⟩ := h
  exact r_dec_nocore h1 c o hc

theorem m_flush_nocore (h : Rm P S w0 w b g f n k L N m) (c : Int) (hc : c < 0 ∨ (k : Int) ≤ c) :
    Calls Try.prog 12 #[.pointer (some ⟨g, 0, none⟩), .int .i64 c] w fun e w' => e = .returned (.int .i64 600) ∧ w' = w := by
  obtain ⟨W, h1, h2⟩ := h
  exact r_flush_nocore h1 c hc

end

theorem vv_0 (k n : Nat) (p : Nat → Nat) : vv k n p 0 = .int .i64 (k : Int) := rfl
theorem vv_1 (k n : Nat) (p : Nat → Nat) : vv k n p 1 = .slice (some ⟨p 0, 0, none⟩) k k := rfl
theorem vv_2 (k n : Nat) (p : Nat → Nat) : vv k n p 2 = .int .i64 (n : Int) := rfl
theorem vv_3 (k n : Nat) (p : Nat → Nat) : vv k n p 3 = .slice (some ⟨p 1, 0, none⟩) n n := rfl
theorem vv_4 (k n : Nat) (p : Nat → Nat) : vv k n p 4 = .int .i64 (k : Int) := rfl
theorem vv_5 (k n : Nat) (p : Nat → Nat) : vv k n p 5 = .slice (some ⟨p 2, 0, none⟩) k k := rfl
theorem vv_6 (k n : Nat) (p : Nat → Nat) : vv k n p 6 = .int .i64 (n : Int) := rfl
theorem vv_7 (k n : Nat) (p : Nat → Nat) : vv k n p 7 = .slice (some ⟨p 3, 0, none⟩) n n := rfl
theorem vv_8 (k n : Nat) (p : Nat → Nat) : vv k n p 8 = .int .i64 (n : Int) := rfl
theorem vv_9 (k n : Nat) (p : Nat → Nat) : vv k n p 9 = .slice (some ⟨p 4, 0, none⟩) n n := rfl
theorem vv_10 (k n : Nat) (p : Nat → Nat) : vv k n p 10 = .int .i64 (n : Int) := rfl
theorem vv_11 (k n : Nat) (p : Nat → Nat) : vv k n p 11 = .slice (some ⟨p 5, 0, none⟩) n n := rfl
theorem vv_12 (k n : Nat) (p : Nat → Nat) : vv k n p 12 = .int .i64 (n : Int) := rfl
theorem vv_13 (k n : Nat) (p : Nat → Nat) : vv k n p 13 = .slice (some ⟨p 6, 0, none⟩) n n := rfl

theorem dead_md {w0 w v : World} {b g k n L N N' : Nat} {p : Nat → Nat} {m m2 m' : Mo} {X : Nat} {O : Obj} {D : List (Nat × Obj)} (h : Jx w0 w b g k n L N p m m2 X O) (g2 : Rm Any (D ++ ((X, O) :: (mS p k n m2 ++ [(g, box b 0 n)]))) w0 v b g 0 n k L N' m') : Md v p k n m2 :=
  ⟨h.one, fun i hi => g2.at_ (x := (p i, ob p k n m2 i)) (List.mem_append.2 (Or.inr (List.mem_cons_of_mem _ (List.mem_append.2 (Or.inl (mem_mS.2 ⟨i, hi, rfl⟩))))))⟩

theorem dead_jm {w0 w v : World} {b g k n L N N' : Nat} {p : Nat → Nat} {m m2 m' : Mo} {X : Nat} {O : Obj} {D : List (Nat × Obj)} (h : Jx w0 w b g k n L N p m m2 X O) (g2 : Rm Any (D ++ ((X, O) :: (mS p k n m2 ++ [(g, box b 0 n)]))) w0 v b g 0 n k L N' m') : Jm w0 v b g k n L N' p m' m2 :=
  ⟨g2.fewer (fun x hx => List.mem_append.2 (Or.inr (List.mem_cons_of_mem _ hx))) (by simp), h.one, h.new⟩

theorem flush_epoch (m : Mo) (n k c : Nat) : (m.flush n k c).epoch ≤ m.epoch + 1 := by
  unfold Mo.flush
  split
  · exact Nat.le_refl _
  · exact Nat.le_succ _

set_option maxRecDepth 100000 in
set_option maxHeartbeats 16000000 in
theorem main (cores objects : Int) (a0 : Option Addr) (len0 cap0 k n L : Nat) (w : World) (k1 : 1 ≤ k) (k4 : k ≤ 4) (n1 : 1 ≤ n) (n8 : n ≤ 8) (hL : L = (k + 2) * (n + 2)) (hk : bits .and .i64 cores 3 = (k : Int) - 1) (hn : bits .and .i64 objects 7 = (n : Int) - 1) (ha : IsActs w a0 len0) :
    Calls Try.prog 3 #[.int .i64 cores, .int .i64 objects, .slice a0 len0 cap0] w fun e w' => e = .returned (.bool true) ∧ Kept [] w w' := by
  have HA : Hid (IsActs w a0 len0) := ha
  clear ha
  have e1 : wrap64 (1 + ((k : Int) - 1)) = (k : Int) := by rw [wrap_small _ (by omega) (by omega)]; omega
  have e2 : wrap64 (1 + ((n : Int) - 1)) = (n : Int) := by rw [wrap_small _ (by omega) (by omega)]; omega
  have hm : (k + 2) * (n + 2) ≤ 6 * 10 := Nat.mul_le_mul (by omega) (by omega)
  have hm1 : 1 * 1 ≤ (k + 2) * (n + 2) := Nat.mul_le_mul (by omega) (by omega)
  have e3 : wrap64 (wrap64 ((n : Int) + 2) * wrap64 ((k : Int) + 2)) = (L : Int) := by
    rw [wrap_small ((n : Int) + 2) (by omega) (by omega), wrap_small ((k : Int) + 2) (by omega) (by omega), show ((n : Int) + 2) * ((k : Int) + 2) = (((k + 2) * (n + 2) : Nat) : Int) from by rw [Int.natCast_mul, Int.mul_comm]; rfl, ← hL]
    exact wrap_small _ (by omega) (by omega)
  have hL1 : 1 ≤ L := by omega
  have hL2 : L ≤ 60 := by omega
  have HL : Hid (_) := hL
  have HB : Hid (_ ∧ _ ∧ _ ∧ _ ∧ _) := ⟨hk, hn, e1, e2, e3⟩
  clear hk hn e1 e2 e3 hm hm1 hL
  go_enter Try.func3, Try.ntmps3
  go_wp2_with fail
  rw [HB.out.1, HB.out.2.1, HB.out.2.2.1, HB.out.2.2.2.1, HB.out.2.2.2.2]
  refine (h_new w (L : Int) (k : Int) (by omega) (by omega) (by omega) (by omega)).mono ?_
  rintro e w2 ⟨b, rfl, hm⟩
  have H1 : Hid (_) := hm
  clear hm HB
  go_wp2_with fail
  refine (m_new (P := Any) (f := 0) (n := n) _ H1.out L k rfl ⟨by omega, by omega, by omega, by omega, by have := HL.out; omega, by omega⟩ any).mono ?_
  rintro e w3 ⟨g, rfl, h3⟩
  have H3 : Hid (_) := h3
  clear h3 H1
  go_wp2_with (first
    | (go_at_call 9; refine (num _ _).mono ?_; rintro e w' ⟨rfl, rfl⟩))
  refine mk_region (k := k) (n := n) (by simp) (by omega) (by omega) rfl rfl ?_
  intro p0 q W hK h1 h2 h3 h4 h5
  have H4 : Hid (_) := Pr.start hK h1 h2 h3 h4 h5
  clear hK h1 h2 h3 h4 h5
  simp only [done, fill, stc, vv_0, vv_1, vv_2, vv_3, vv_4, vv_5, vv_6, vv_7, vv_8, vv_9, vv_10, vv_11, vv_12, vv_13]
  go_wp2_with fail
  go_loopw [14] (fun i wr => ∃ (j : Nat) (P : Nat → Nat), i = .int .i64 (j : Int) ∧ j ≤ k ∧ Hid (P 0 = q ∧ Pr w' wr P k n j)) (fun i _ => (k - intOf i).toNat)
  case atStart => exact ⟨0, _, rfl, by omega, rfl, H4.out⟩
  case round =>
    clear H4
    obtain ⟨j, P, rfl, hj, HJ⟩ := hrel
    by_cases hlt : j < k
    · have i0 : (j : Int) < (k : Int) := by omega
      have i1 : (0 : Int) ≤ (j : Int) := by omega
      have hmk := make_ints n (by omega)
      obtain ⟨hq, hP⟩ := HJ.out
      have l0 := hP.lie 0 (by omega) (by omega)
      rw [hq] at l0
      have hka : Kept [] wr (wr.alloc (.cells (bl n fun _ => .int .i64 0) 3)) := (Kept.refl [] wr).alloc _
      have c0 : wr.cell? ⟨q, 0, none⟩ = some (.slice (some ⟨P 1, 0, none⟩) k k) := cell_of l0 rfl
      have c0' := hka.cell c0 (by simp)
      have c1 := cell_of hP.rows (bl_get hlt)
      have c1' := hka.cell c1 (by simp)
      have z1 := block_frozen hP.rows j
      have z1' := block_frozen (show (wr.alloc (.cells (bl n fun _ => .int .i64 0) 3)).heap[P 1]? = _ from by rw [hka.block (P 1) (lt_of_heap hP.rows) (by simp)]; exact hP.rows) j
      have HN : Hid (_ ∧ _) := ⟨show (if 0 = 8 + j then wr.heap.size else P 0) = q from by rw [if_neg (by omega)]; exact hq, hP.next hlt⟩
      clear hq hP l0 hka HJ
      rw [if_neg (by omega)] at c1 c1'
      go_wp2_with fail
      go_region
      clear c0 c0' c1 c1' z1 z1' hmk
      go_wp2
      go_roundw
      case rel => exact ⟨j + 1, fun i => if i = 8 + j then wr.heap.size else P i, by go_num, by omega, HN⟩
      case measure => simp [intOf]; omega
    · have e : j = k := by omega
      obtain ⟨hq, hP⟩ := HJ.out
      rw [e] at hP
      have H5 : Hid (Jm w wr b g k n L 700 P Mo.none Mo.none) := Pr.joint hP H3.out
      clear hP HJ H3 e
      subst hq
      have i0 : ¬ (j : Int) < (k : Int) := by omega
      go_wp2_with fail
      go_loopw [15] (fun i wr => ∃ (r : Nat) (m : Mo), i = .int .i64 (r : Int) ∧ r ≤ len0 ∧ r ≤ 200 ∧ Hid (m.epoch ≤ r ∧ Jm w wr b g k n L (700 + 1000 * r) P m m)) (fun i _ => (200 - intOf i).toNat)
      case atStart => exact ⟨0, _, rfl, by omega, by omega, Nat.le_refl _, H5.out⟩
      case round =>
        clear H5
        obtain ⟨r, m, rfl, hr, hr2, HJ⟩ := hrel
        by_cases hlt : r < len0 ∧ r < 200
        · obtain ⟨hlt, hlt2⟩ := hlt
          have i1 : (0 : Int) ≤ (r : Int) := by omega
          have i2 : (r : Int) < (len0 : Int) := by omega
          have i3 : (r : Int) < 200 := by omega
          rcases HA.out with h0 | ⟨B, off, K, C, T, rfl, hl, hc⟩
          · omega
          clear HA
          obtain ⟨x0, x1, x2⟩ := (hc r hlt).kept (Jm.refs HJ.out.2).old
          clear hc
          generalize K r = kd at x0
          generalize C r = cc at x1
          generalize T r = oo at x2
          have HX : Hid (m.epoch ≤ r ∧ Jx w (wr.alloc (xo kd cc oo)) b g k n L (700 + 1000 * r) P m m wr.heap.size (xo kd cc oo)) := ⟨HJ.out.1, Jm.push HJ.out.2 ((Kept.refl [] wr).alloc _) (Nat.le_refl _) (heap_alloc_new wr _)⟩
          obtain ⟨W0, h0⟩ : ∃ W0, W0 = wr.alloc (xo kd cc oo) := ⟨_, rfl⟩
          rw [← h0] at HX
          have hW0 : Hid (wr.alloc (.cells #[.int .i64 kd, .int .i64 cc, .int .i64 oo] 38 (0, 0)) = W0) := h0.symm
          clear h0 HJ
          have F := (Jx.refs HX.out.2).fx
          by_cases hcb : cc < 0 ∨ (k : Int) ≤ cc
          · by_cases h3 : kd < 3
            · as_aux_lemma =>
                go_wp2_with fail
                rw [hW0.out]
                refine (m_inc_nocore (Jx.refs HX.out.2) cc oo hcb).mono ?_
                rintro e w1 ⟨rfl, rfl⟩
                obtain ⟨y0, y1, y2⟩ := Jx.act HX.out.2
                rcases hcb with hcb | hcb
                · go_wp2_with (first
                    | (go_at_call 9; refine (num _ _).mono ?_; rintro e w' ⟨rfl, rfl⟩))
                  go_roundw
                  case rel => exact ⟨r + 1, m, by go_num, by omega, by omega, by have := HX.out.1; omega, (Jx.drop HX.out.2).mono (by omega)⟩
                  case measure => simp [intOf]; omega
                · have hc0 : ¬ cc < 0 := by omega
                  go_wp2_with (first
                    | (go_at_call 9; refine (num _ _).mono ?_; rintro e w' ⟨rfl, rfl⟩))
                  go_roundw
                  case rel => exact ⟨r + 1, m, by go_num, by omega, by omega, by have := HX.out.1; omega, (Jx.drop HX.out.2).mono (by omega)⟩
                  case measure => simp [intOf]; omega
            · by_cases h5 : kd < 5
              · as_aux_lemma =>
                  go_wp2_with fail
                  rw [hW0.out]
                  refine (m_dec_nocore (Jx.refs HX.out.2) cc oo hcb).mono ?_
                  rintro e w1 ⟨rfl, rfl⟩
                  obtain ⟨y0, y1, y2⟩ := Jx.act HX.out.2
                  rcases hcb with hcb | hcb
                  · go_wp2_with (first
                      | (go_at_call 9; refine (num _ _).mono ?_; rintro e w' ⟨rfl, rfl⟩))
                    go_roundw
                    case rel => exact ⟨r + 1, m, by go_num, by omega, by omega, by have := HX.out.1; omega, (Jx.drop HX.out.2).mono (by omega)⟩
                    case measure => simp [intOf]; omega
                  · have hc0 : ¬ cc < 0 := by omega
                    go_wp2_with (first
                      | (go_at_call 9; refine (num _ _).mono ?_; rintro e w' ⟨rfl, rfl⟩))
                    go_roundw
                    case rel => exact ⟨r + 1, m, by go_num, by omega, by omega, by have := HX.out.1; omega, (Jx.drop HX.out.2).mono (by omega)⟩
                    case measure => simp [intOf]; omega
              · as_aux_lemma =>
                  go_wp2_with fail
                  rw [hW0.out]
                  refine (m_flush_nocore (Jx.refs HX.out.2) cc hcb).mono ?_
                  rintro e w1 ⟨rfl, rfl⟩
                  obtain ⟨y0, y1, y2⟩ := Jx.act HX.out.2
                  rcases hcb with hcb | hcb
                  · go_wp2_with (first
                      | (go_at_call 9; refine (num _ _).mono ?_; rintro e w' ⟨rfl, rfl⟩))
                    go_roundw
                    case rel => exact ⟨r + 1, m, by go_num, by omega, by omega, by have := HX.out.1; omega, (Jx.drop HX.out.2).mono (by omega)⟩
                    case measure => simp [intOf]; omega
                  · have hc0 : ¬ cc < 0 := by omega
                    go_wp2_with (first
                      | (go_at_call 9; refine (num _ _).mono ?_; rintro e w' ⟨rfl, rfl⟩))
                    go_roundw
                    case rel => exact ⟨r + 1, m, by go_num, by omega, by omega, by have := HX.out.1; omega, (Jx.drop HX.out.2).mono (by omega)⟩
                    case measure => simp [intOf]; omega
          · obtain ⟨c, rfl⟩ := Int.eq_ofNat_of_zero_le (show 0 ≤ cc by omega)
            have hck : c < k := by omega
            have hc1 : (c : Int) < (k : Int) := by omega
            have hc2 : ¬ (k : Int) ≤ (c : Int) := by omega
            have hc3 : (0 : Int) ≤ (c : Int) := by omega
            clear hcb
            by_cases h5 : kd < 5
            · by_cases hob : oo < 0 ∨ (n : Int) ≤ oo
              · by_cases h3 : kd < 3
                · as_aux_lemma =>
                    go_wp2_with fail
                    rw [hW0.out]
                    refine (m_inc_noobj (Jx.refs HX.out.2) c oo hck hob).mono ?_
                    rintro e w1 ⟨rfl, rfl⟩
                    obtain ⟨y0, y1, y2⟩ := Jx.act HX.out.2
                    rcases hob with hob | hob
                    · go_wp2_with (first
                        | (go_at_call 9; refine (num _ _).mono ?_; rintro e w' ⟨rfl, rfl⟩))
                      go_roundw
                      case rel => exact ⟨r + 1, m, by go_num, by omega, by omega, by have := HX.out.1; omega, (Jx.drop HX.out.2).mono (by omega)⟩
                      case measure => simp [intOf]; omega
                    · have ho0 : ¬ oo < 0 := by omega
                      go_wp2_with (first
                        | (go_at_call 9; refine (num _ _).mono ?_; rintro e w' ⟨rfl, rfl⟩))
                      go_roundw
                      case rel => exact ⟨r + 1, m, by go_num, by omega, by omega, by have := HX.out.1; omega, (Jx.drop HX.out.2).mono (by omega)⟩
                      case measure => simp [intOf]; omega
                · as_aux_lemma =>
                    go_wp2_with fail
                    rw [hW0.out]
                    refine (m_dec_noobj (Jx.refs HX.out.2) c oo hck hob).mono ?_
                    rintro e w1 ⟨rfl, rfl⟩
                    obtain ⟨y0, y1, y2⟩ := Jx.act HX.out.2
                    rcases hob with hob | hob
                    · go_wp2_with (first
                        | (go_at_call 9; refine (num _ _).mono ?_; rintro e w' ⟨rfl, rfl⟩))
                      go_roundw
                      case rel => exact ⟨r + 1, m, by go_num, by omega, by omega, by have := HX.out.1; omega, (Jx.drop HX.out.2).mono (by omega)⟩
                      case measure => simp [intOf]; omega
                    · have ho0 : ¬ oo < 0 := by omega
                      go_wp2_with (first
                        | (go_at_call 9; refine (num _ _).mono ?_; rintro e w' ⟨rfl, rfl⟩))
                      go_roundw
                      case rel => exact ⟨r + 1, m, by go_num, by omega, by omega, by have := HX.out.1; omega, (Jx.drop HX.out.2).mono (by omega)⟩
                      case measure => simp [intOf]; omega
              · obtain ⟨o, rfl⟩ := Int.eq_ofNat_of_zero_le (show 0 ≤ oo by omega)
                have hon : o < n := by omega
                have ho1 : (o : Int) < (n : Int) := by omega
                have ho2 : ¬ (n : Int) ≤ (o : Int) := by omega
                have ho3 : (0 : Int) ≤ (o : Int) := by omega
                clear hob
                by_cases h3 : kd < 3
                · as_aux_lemma =>
                    go_wp2_with fail
                    rw [hW0.out]
                    refine (m_inc (Jx.refs HX.out.2) c o hck hon (fun _ _ => trivial) (by omega)).mono ?_
                    rintro e w1 ⟨rfl, g1⟩
                    have H1 : Hid (_) := Jx.to HX.out.2 g1
                    have HE : Hid (_) := HX.out.1
                    clear g1 HX hW0 x0 x1 x2
                    obtain ⟨y0, y1, y2⟩ := Jx.act H1.out
                    have md := Jx.md H1.out
                    obtain ⟨c0, c1, c2, c3, c4, c5, c6, c7⟩ := md.main
                    have q1 := md.row c hck
                    have q2 := md.part c o hck hon
                    have z1 := md.frozen (8 + c) (by omega) o
                    clear md
                    go_wp2_with (first
                      | (go_at_call 9; refine (num _ _).mono ?_; rintro e w' ⟨rfl, rfl⟩))
                    go_region
                    clear c0 c1 c2 c3 c4 c5 c6 c7 q1 q2 z1 y0 y1 y2
                    obtain ⟨W2, hW2⟩ : ∃ W2, W2 = (w'.setCell ⟨P (8 + c), o, none⟩ (.int .i64 (wrap64 (m.parts c o + 1)))).drew := ⟨_, rfl⟩
                    rw [← hW2]
                    have H2 : Hid (Jx w (w'.setCell ⟨P (8 + c), o, none⟩ (.int .i64 (wrap64 (m.parts c o + 1)))).drew b g k n L _ P _ _ wr.heap.size (xo kd (c : Int) (o : Int))) := Jx.turn H1.out (Kept.mset (Kept.refl _ _) (8 + c) (by omega) o _).drew (Md.setPart (Jx.md H1.out) c o hck (wrap64 (m.parts c o + 1))).drew
                    rw [← hW2] at H2
                    clear hW2 H1
                    obtain ⟨y0, y1, y2⟩ := Jx.act H2.out
                    have md := Jx.md H2.out
                    obtain ⟨c0, c1, c2, c3, c4, c5, c6, c7⟩ := md.main
                    have q3 := md.ever o hon
                    have z1 := md.frozen 6 (by omega) o
                    clear md
                    go_wp2_with fail
                    go_region
                    clear c0 c1 c2 c3 c4 c5 c6 c7 q3 z1 y0 y1 y2
                    obtain ⟨W3, hW3⟩ : ∃ W3, W3 = (W2.setCell ⟨P 6, o, none⟩ (.bool true)).drew := ⟨_, rfl⟩
                    rw [← hW3]
                    have HT : Hid ((m.count c o 1).epoch ≤ r + 1 ∧ Jx w (W2.setCell ⟨P 6, o, none⟩ (.bool true)).drew b g k n L (700 + 1000 * r + 600) P (m.count c o 1) (m.count c o 1) wr.heap.size (xo kd (c : Int) (o : Int))) := ⟨Nat.le_succ_of_le HE.out, Jx.mono (Jx.turn H2.out (Kept.mset (Kept.refl _ _) 6 (by omega) o _).drew (Md.setEver (Jx.md H2.out) o true).drew) (by omega)⟩
                    rw [← hW3] at HT
                    clear hW3 H2 HE
                    obtain ⟨M, hM⟩ : ∃ M, M = m.count c o 1 := ⟨_, rfl⟩
                    rw [← hM] at HT
                    clear hM
                    have hD : Jx w W3.drew b g k n L (700 + 1000 * r + 600) P M M wr.heap.size (xo kd (c : Int) (o : Int)) := Jx.still HT.out.2 (Kept.refl [] _).drew
                    have HD : Hid (_ ∧ _) := ⟨hD, (Md.main (Jx.md hD)).2.2.2.2.2.2.2⟩
                    have HE2 : Hid (_) := HT.out.1
                    clear hD HT
                    have te : ((M.epoch : Int) != (M.epoch : Int)) = false := by simp
                    go_wp2_with fail
                    go_region_held3 (fun w' => w'.cell? ⟨P 0, 7, none⟩ = some (.int .i64 (M.epoch : Int))) (first | exact HD.out.2 | exact z1 | exact z2 | exact z3 | exact z4 | go_keep)
                      (first
                        | (go_at_call 14; refine (m_epoch (Jx.refs HD.out.1) any (by omega)).mono ?_; rintro e v1 ⟨rfl, g1⟩; have z1 := (Md.main (Jx.md (Jx.to HD.out.1 g1))).2.2.2.2.2.2.2)
                        | (go_at_call 16; refine (m_dead g1 any (by omega)).mono ?_; rintro e v2 ⟨da, dc, D, rfl, hO, g2⟩; have z2 := (Md.main (dead_md HD.out.1 g2)).2.2.2.2.2.2.2)
                        | (go_at_call 17; refine (p_list (dead_md HD.out.1 g2) (by omega)).mono ?_; rintro e v3 ⟨u, rfl, hu, hk3⟩; obtain ⟨ua, uc, rfl, -⟩ := hu.slice; have z3 := hk3.cell z2 (by simp))
                        | (go_at_call 15; refine (same_ints ((hO.own fun x hx => g2.at_ (List.mem_append.2 (Or.inl hx))).kept hk3) hu (Nat.le_trans (Mo.list_length M n) (by omega))).mono ?_; rintro e v4 ⟨rr, rfl, hrr, hk4⟩; obtain rfl : rr = true := hrr.out.2 rfl; have z4 := hk4.cell z3 (by simp)))
                    have HZ : Hid (_ ∧ _) := ⟨HE2.out, Jm.still (dead_jm HD.out.1 g2) (hk3.trans hk4 (by simp))⟩
                    clear HD HE2 z1 z2 z3 z4 g1 g2 hO hu hk3 hk4 hrr
                    go_wp2
                    go_roundw
                    case rel => exact ⟨r + 1, M, by go_num, by omega, by omega, by have := HZ.out.1; omega, Jm.mono HZ.out.2 (by omega)⟩
                    case measure => simp [intOf]; omega
                · as_aux_lemma =>
                    go_wp2_with fail
                    rw [hW0.out]
                    refine (m_dec (Jx.refs HX.out.2) c o hck hon (fun _ _ => trivial) (by omega)).mono ?_
                    rintro e w1 ⟨rfl, g1⟩
                    have H1 : Hid (_) := Jx.to HX.out.2 g1
                    have HE : Hid (_) := HX.out.1
                    clear g1 HX hW0 x0 x1 x2
                    obtain ⟨y0, y1, y2⟩ := Jx.act H1.out
                    have md := Jx.md H1.out
                    obtain ⟨c0, c1, c2, c3, c4, c5, c6, c7⟩ := md.main
                    have q1 := md.row c hck
                    have q2 := md.part c o hck hon
                    have z1 := md.frozen (8 + c) (by omega) o
                    clear md
                    go_wp2_with (first
                      | (go_at_call 9; refine (num _ _).mono ?_; rintro e w' ⟨rfl, rfl⟩))
                    go_region
                    clear c0 c1 c2 c3 c4 c5 c6 c7 q1 q2 z1 y0 y1 y2
                    obtain ⟨W2, hW2⟩ : ∃ W2, W2 = (w'.setCell ⟨P (8 + c), o, none⟩ (.int .i64 (wrap64 (m.parts c o - 1)))).drew := ⟨_, rfl⟩
                    rw [← hW2]
                    have H2 : Hid (Jx w (w'.setCell ⟨P (8 + c), o, none⟩ (.int .i64 (wrap64 (m.parts c o - 1)))).drew b g k n L _ P _ _ wr.heap.size (xo kd (c : Int) (o : Int))) := Jx.turn H1.out (Kept.mset (Kept.refl _ _) (8 + c) (by omega) o _).drew (Md.setPart (Jx.md H1.out) c o hck (wrap64 (m.parts c o - 1))).drew
                    rw [← hW2] at H2
                    clear hW2 H1
                    obtain ⟨y0, y1, y2⟩ := Jx.act H2.out
                    have md := Jx.md H2.out
                    obtain ⟨c0, c1, c2, c3, c4, c5, c6, c7⟩ := md.main
                    have q3 := md.ever o hon
                    have z1 := md.frozen 6 (by omega) o
                    clear md
                    go_wp2_with fail
                    go_region
                    clear c0 c1 c2 c3 c4 c5 c6 c7 q3 z1 y0 y1 y2
                    obtain ⟨W3, hW3⟩ : ∃ W3, W3 = (W2.setCell ⟨P 6, o, none⟩ (.bool true)).drew := ⟨_, rfl⟩
                    rw [← hW3]
                    have HT : Hid ((m.count c o (-1)).epoch ≤ r + 1 ∧ Jx w (W2.setCell ⟨P 6, o, none⟩ (.bool true)).drew b g k n L (700 + 1000 * r + 600) P (m.count c o (-1)) (m.count c o (-1)) wr.heap.size (xo kd (c : Int) (o : Int))) := ⟨Nat.le_succ_of_le HE.out, Jx.mono (Jx.turn H2.out (Kept.mset (Kept.refl _ _) 6 (by omega) o _).drew (Md.setEver (Jx.md H2.out) o true).drew) (by omega)⟩
                    rw [← hW3] at HT
                    clear hW3 H2 HE
                    obtain ⟨M, hM⟩ : ∃ M, M = m.count c o (-1) := ⟨_, rfl⟩
                    rw [← hM] at HT
                    clear hM
                    have hD : Jx w W3.drew b g k n L (700 + 1000 * r + 600) P M M wr.heap.size (xo kd (c : Int) (o : Int)) := Jx.still HT.out.2 (Kept.refl [] _).drew
                    have HD : Hid (_ ∧ _) := ⟨hD, (Md.main (Jx.md hD)).2.2.2.2.2.2.2⟩
                    have HE2 : Hid (_) := HT.out.1
                    clear hD HT
                    have te : ((M.epoch : Int) != (M.epoch : Int)) = false := by simp
                    go_wp2_with fail
                    go_region_held3 (fun w' => w'.cell? ⟨P 0, 7, none⟩ = some (.int .i64 (M.epoch : Int))) (first | exact HD.out.2 | exact z1 | exact z2 | exact z3 | exact z4 | go_keep)
                      (first
                        | (go_at_call 14; refine (m_epoch (Jx.refs HD.out.1) any (by omega)).mono ?_; rintro e v1 ⟨rfl, g1⟩; have z1 := (Md.main (Jx.md (Jx.to HD.out.1 g1))).2.2.2.2.2.2.2)
                        | (go_at_call 16; refine (m_dead g1 any (by omega)).mono ?_; rintro e v2 ⟨da, dc, D, rfl, hO, g2⟩; have z2 := (Md.main (dead_md HD.out.1 g2)).2.2.2.2.2.2.2)
                        | (go_at_call 17; refine (p_list (dead_md HD.out.1 g2) (by omega)).mono ?_; rintro e v3 ⟨u, rfl, hu, hk3⟩; obtain ⟨ua, uc, rfl, -⟩ := hu.slice; have z3 := hk3.cell z2 (by simp))
                        | (go_at_call 15; refine (same_ints ((hO.own fun x hx => g2.at_ (List.mem_append.2 (Or.inl hx))).kept hk3) hu (Nat.le_trans (Mo.list_length M n) (by omega))).mono ?_; rintro e v4 ⟨rr, rfl, hrr, hk4⟩; obtain rfl : rr = true := hrr.out.2 rfl; have z4 := hk4.cell z3 (by simp)))
                    have HZ : Hid (_ ∧ _) := ⟨HE2.out, Jm.still (dead_jm HD.out.1 g2) (hk3.trans hk4 (by simp))⟩
                    clear HD HE2 z1 z2 z3 z4 g1 g2 hO hu hk3 hk4 hrr
                    go_wp2
                    go_roundw
                    case rel => exact ⟨r + 1, M, by go_num, by omega, by omega, by have := HZ.out.1; omega, Jm.mono HZ.out.2 (by omega)⟩
                    case measure => simp [intOf]; omega
            · have h3 : ¬ kd < 3 := by omega
              as_aux_lemma =>
                go_wp2_with fail
                rw [hW0.out]
                refine (m_flush (Jx.refs HX.out.2) c hck any (by omega) (by have := HX.out.1; omega)).mono ?_
                rintro e w1 ⟨rfl, g1⟩
                have H1 : Hid (_) := Jx.to HX.out.2 g1
                have HE : Hid (_) := HX.out.1
                clear g1 HX hW0 x0 x1 x2
                obtain ⟨y0, y1, y2⟩ := Jx.act H1.out
                go_wp2_with (first
                  | (go_at_call 9; refine (num _ _).mono ?_; rintro e w' ⟨rfl, rfl⟩))
                refine (p_flush (Jx.md H1.out) c hck (by omega) (by omega) (by have := HE.out; omega)).mono ?_
                rintro e W3 ⟨rfl, hk3, hm3⟩
                have HT : Hid ((m.flush n k c).epoch ≤ r + 1 ∧ _) := ⟨Nat.le_trans (flush_epoch m n k c) (by have := HE.out; omega), Jx.mono (Jx.turn H1.out hk3 hm3) (show _ ≤ 700 + 1000 * r + 600 by omega)⟩
                clear hk3 hm3 H1 HE y0 y1 y2
                obtain ⟨M, hM⟩ : ∃ M, M = m.flush n k c := ⟨_, rfl⟩
                rw [← hM] at HT
                clear hM
                have hD : Jx w W3.drew b g k n L (700 + 1000 * r + 600) P M M wr.heap.size (xo kd (c : Int) oo) := Jx.still HT.out.2 (Kept.refl [] _).drew
                have HD : Hid (_ ∧ _) := ⟨hD, (Md.main (Jx.md hD)).2.2.2.2.2.2.2⟩
                have HE2 : Hid (_) := HT.out.1
                clear hD HT
                have te : ((M.epoch : Int) != (M.epoch : Int)) = false := by simp
                go_wp2_with fail
                go_region_held3 (fun w' => w'.cell? ⟨P 0, 7, none⟩ = some (.int .i64 (M.epoch : Int))) (first | exact HD.out.2 | exact z1 | exact z2 | exact z3 | exact z4 | go_keep)
                  (first
                    | (go_at_call 14; refine (m_epoch (Jx.refs HD.out.1) any (by omega)).mono ?_; rintro e v1 ⟨rfl, g1⟩; have z1 := (Md.main (Jx.md (Jx.to HD.out.1 g1))).2.2.2.2.2.2.2)
                    | (go_at_call 16; refine (m_dead g1 any (by omega)).mono ?_; rintro e v2 ⟨da, dc, D, rfl, hO, g2⟩; have z2 := (Md.main (dead_md HD.out.1 g2)).2.2.2.2.2.2.2)
                    | (go_at_call 17; refine (p_list (dead_md HD.out.1 g2) (by omega)).mono ?_; rintro e v3 ⟨u, rfl, hu, hk3⟩; obtain ⟨ua, uc, rfl, -⟩ := hu.slice; have z3 := hk3.cell z2 (by simp))
                    | (go_at_call 15; refine (same_ints ((hO.own fun x hx => g2.at_ (List.mem_append.2 (Or.inl hx))).kept hk3) hu (Nat.le_trans (Mo.list_length M n) (by omega))).mono ?_; rintro e v4 ⟨rr, rfl, hrr, hk4⟩; obtain rfl : rr = true := hrr.out.2 rfl; have z4 := hk4.cell z3 (by simp)))
                have HZ : Hid (_ ∧ _) := ⟨HE2.out, Jm.still (dead_jm HD.out.1 g2) (hk3.trans hk4 (by simp))⟩
                clear HD HE2 z1 z2 z3 z4 g1 g2 hO hu hk3 hk4 hrr
                go_wp2
                go_roundw
                case rel => exact ⟨r + 1, M, by go_num, by omega, by omega, by have := HZ.out.1; omega, Jm.mono HZ.out.2 (by omega)⟩
                case measure => simp [intOf]; omega
        · have HZ : Hid (_) := HJ.out.2
          clear HJ
          by_cases hx : r < len0
          · have i1 : (r : Int) < (len0 : Int) := by omega
            have i2 : ¬ (r : Int) < 200 := by omega
            go_wp2_with fail
            refine (p_counts HZ.out (by omega)).mono ?_
            rintro e w5 ⟨rfl, hk5⟩
            have H5 : Hid (_) := hk5
            clear hk5 HZ
            go_wp2_with fail
            refine (awake_any _).mono ?_
            rintro e w6 ⟨rfl, hk6⟩
            have H6 : Hid (_) := H5.out.trans hk6 (by simp)
            clear hk6 H5
            go_wp2_with fail
            go_ret
            exact ⟨rfl, H6.out⟩
          · have i1 : ¬ (r : Int) < (len0 : Int) := by omega
            go_wp2_with fail
            refine (p_counts HZ.out (by omega)).mono ?_
            rintro e w5 ⟨rfl, hk5⟩
            have H5 : Hid (_) := hk5
            clear hk5 HZ
            go_wp2_with fail
            refine (awake_any _).mono ?_
            rintro e w6 ⟨rfl, hk6⟩
            have H6 : Hid (_) := H5.out.trans hk6 (by simp)
            clear hk6 H5
            go_wp2_with fail
            go_ret
            exact ⟨rfl, H6.out⟩

theorem walk (cores objects : Int) (a : Option Addr) (len cap : Nat) (w : World) (_ : (Lit.int .i64 cores).wf = true) (_ : (Lit.int .i64 objects).wf = true) (ha : IsActs w a len) :
    Calls Try.prog 3 #[.int .i64 cores, .int .i64 objects, .slice a len cap] w fun e w' => e = .returned (.bool true) ∧ Below w.heap.size w w' :=
  (main cores objects a len cap ((cores % 4).toNat + 1) ((objects % 8).toNat + 1) _ w (by omega) (by omega) (by omega) (by omega) rfl (by rw [i64_and3]; omega) (by rw [i64_and7]; omega) ha).mono fun e w' ⟨he, hk⟩ => ⟨he, hk.below (Nat.le_refl _) (by simp)⟩

set_option maxRecDepth 100000 in
theorem lifted (os : Os) (started : os.Started) (H : Type) (enc : TypeId × Value → H) :
    ReturnsInHanded {} Try.checked os 3 .any (Rows.refsActsSpec.pre6 enc Try.prog Try.f3 Rows.refsActsRow.domain false) (Rows.refsActsSpec.post enc Try.prog Try.f3 false true false false) := by
  refine returnsInHanded_of_change (C := Try.checked) own started (by kernel_rfl) Try.func3
    (ChangeSpec.witness6 (enc := enc) (C := Try.checked) false ⟨#[], #[.int .i64 0, .int .i64 0, .slice none 0 0], []⟩ 8 (by kernel_rfl) (by kernel_rfl) (by kernel_rfl) (by kernel_rfl)) ?_
  intro W base args ds gs before hval0 hW hcnd _
  have hval : ∀ (j : Nat) t v, Try.f3.params[j]? = some t → args[j]? = some v → Value.okWide Try.prog W .any base t v := hval0
  have hW' := hW
  obtain ⟨p, q, hA0, hV, rfl, hfz, hnd⟩ := hW
  have hA : DataW.TrodAll enc Try.prog W 0 (fun _ => true) true Try.f3.params.toList args.toList ds p := hA0
  rw [Try.params3] at hA hval
  obtain ⟨v0, vs0, d0, ds0, p0, q0, hargs, rfl, rfl, h0, r0⟩ := trodAll_cons hA
  obtain ⟨v1, vs1, d1, ds1, p1, q1, rfl, rfl, rfl, h1, r1⟩ := trodAll_cons r0
  obtain ⟨v2, vs2, d2, ds2, p2, q2, rfl, rfl, rfl, h2, r2⟩ := trodAll_cons r1
  obtain ⟨rfl, rfl, rfl⟩ := trodAll_nil r2
  obtain rfl : args = #[v0, v1, v2] := by cases args; simp_all
  obtain ⟨rfl, rfl⟩ := trodVars_none hV
  obtain ⟨a0, rfl, rfl, rfl, w0⟩ := open_int Try.underlying3 (hval 0 3 v0 rfl rfl) h0
  obtain ⟨a1, rfl, rfl, rfl, w1⟩ := open_int Try.underlying3 (hval 1 3 v1 rfl rfl) h1
  obtain ⟨a2, len2, cap2, rfl⟩ := okWide_slice Try.underlying22 (hval 2 22 v2 rfl rfl)
  have k2 := h2
  have lt2 : ∀ x ∈ p2, x.block < W.heap.size := by obtain ⟨m, hm⟩ := k2; exact DataW.trod_lt m _ _ _ hm
  have w2 : IsActs W a2 len2 := by
    obtain ⟨fuel, hf⟩ := h2
    exact acts_at hf
  clear hA0 hval0
  refine (walk a0 a1 a2 len2 cap2 W w0 w1 w2).mono fun e W' ⟨he, bel⟩ => ?_
  subst he
  exact ⟨_, rfl, _, _, _, [], _, [], hW', trodAll_mk1 (shut_bool Try.underlying4 _), (trodAll_cons_mk (shut_int Try.underlying3 w0) (trodAll_cons_mk (shut_int Try.underlying3 w1) (trodAll_cons_mk (Below.trod laidOut (by kernel_rfl) (of_decide_eq_true (by kernel_rfl)) k2 bel lt2) trodAll_mk0))), rfl, bel.frame _, fun h => by cases h⟩

theorem over : Rows.refsActsRow.holds Try.pinned (OpenSpec.ofChange Rows.refsActsSpec) :=
  OpenClaim.holds_of_wide 3 Try.f3 rfl rfl rfl rfl rfl rfl rfl ⟨rfl, rfl, rfl, rfl, rfl⟩ rfl rfl rfl rfl rfl (by kernel_rfl) Try.func3 (by kernel_rfl)
    (of_decide_eq_true (by kernel_rfl)) (by unfold Func.isWrapper; first | (rw [if_pos (by decide +kernel)]; kernel_rfl) | (rw [if_neg (by decide +kernel)]; exact ⟨rfl, rfl⟩))
    (fun os started H enc _ => lifted os started H enc)

end Go.Proofs.Ytljmpcmkgeomiaa.refsActs

namespace Go.Proofs.Ytljmpcmkgeomiaa
theorem refsActs_holds : Rows.RefsActsSaid := refsActs.over
#print axioms refsActs_holds
end Go.Proofs.Ytljmpcmkgeomiaa
