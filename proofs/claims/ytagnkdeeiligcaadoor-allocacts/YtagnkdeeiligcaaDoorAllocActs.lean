/-
  Proved: for every cores, from, words and acts, the law AllocActs returns true; its card, tied to the program's text.
-/
import Derived.Test.YtagnkdeeiligcaaDoorRows
import Derived.Test.YtagnkdeeiligcaaDoorCards
import Derived.Test.YtagnkdeeiligcaaDoorTie
import Derived.Test.YtagnkdeeiligcaaDoorActs4
import Derived.WalkKit
import Derived.ProofKit
import Derived.OpenShut
import Derived.ShutString
import Derived.ChangeOld
import Derived.Below
import Derived.Deep.Slices
import Derived.LaidMore
import Derived.Stop.Joined
import Derived.SevenTiedAt
namespace Go.Proofs.YtagnkdeeiligcaaDoor.allocActs
open Go.ChangeShapes Go.WideShapes Go.ChangeAt Go.RowKit
open Go.ChangeMaps (open_string shut_string)
set_option linter.unusedVariables false

/-- The acts as they lie. -/
def IsActs (w : World) (a : Option Addr) (len : Nat) : Prop :=
  len ≤ 9223372036854775807 ∧ ∀ i, i < len → ∃ B off, a = some ⟨B, off, none⟩ ∧ ∃ kd co sz K : Int, w.cell? ⟨B, off + i * 4, none⟩ = some (.int .i64 kd) ∧ w.cell? ⟨B, off + i * 4 + 1, none⟩ = some (.int .i64 co) ∧ w.cell? ⟨B, off + i * 4 + 2, none⟩ = some (.int .i64 sz) ∧ w.cell? ⟨B, off + i * 4 + 3, none⟩ = some (.int .i64 K)

/-- What holds between two acts. -/
def Mid (w0 w : World) (b x k f s B n : Nat) : Prop := ∃ A P v bs, JM w0 w b x k f s B A P (900000 - 300 * n) v bs ∧ Rel k f s P bs ∧ bs.length ≤ n

set_option maxRecDepth 100000 in
set_option maxHeartbeats 16000000 in
theorem walk0 (a0 a1 a2 : Int) (aa : Option Addr) (len0 cap0 : Nat) (w : World) (hT : Tab w) (ha : IsActs w aa len0) :
    Calls Tryd.prog 3 #[.int .i64 a0, .int .i64 a1, .int .i64 a2, .slice aa len0 cap0] w fun e w' => e = .returned (.bool true) ∧ Kept [] w w' := by
  obtain ⟨m, hm, hm2⟩ := low_nat 4 a0 _ (by omega) (i64_and3 a0)
  obtain ⟨f, hf, hf2⟩ := low_nat 32 a1 _ (by omega) (i64_and31 a1)
  obtain ⟨m3, hm3, hm4⟩ := low_nat 512 a2 _ (by omega) (i64_and511 a2)
  obtain ⟨k, hk⟩ : ∃ k, 1 + m = k := ⟨_, rfl⟩
  have hk1 : 1 ≤ k := by omega
  have hk2 : k ≤ 4 := by omega
  have hk3 : (1 : Int) + (m : Int) = (k : Int) := by omega
  obtain ⟨W, hW⟩ : ∃ W, 256 + m3 = W := ⟨_, rfl⟩
  have hW1 : 256 ≤ W := by omega
  have hW2 : W ≤ 767 := by omega
  have hW3 : (256 : Int) + (m3 : Int) = (W : Int) := by omega
  have hs1 : W / k ≤ 1000 := Nat.le_trans (Nat.div_le_self _ _) (by omega)
  have hsk : k * (W / k) ≤ W := Nat.mul_div_le W k
  have hdiv : (W : Int) / (k : Int) = ((W / k : Nat) : Int) := by simp
  have HT : Hid (_ ∧ _) := ⟨hT, ha⟩
  clear hT ha hk hm2 hW hm4
  go_enter Tryd.func3, Tryd.ntmps3
  go_wp2_with fail
  refine (u_new w ((f : Int) + (W : Int)) (k : Int) (by omega) (by omega) (by omega) (by omega)).mono ?_
  rintro e w2 ⟨b, rfl, hmm⟩
  have HM : Hid (Has w w2 b (fresh (f + W) k)) := by
    show Has w w2 b (fresh (f + W) k)
    rw [show ((f : Int) + (W : Int)).toNat = f + W from by omega, Int.toNat_natCast] at hmm
    exact hmm
  clear hmm
  go_wp2_with fail
  refine (new_alloc (N := f + W) (k := k) (f := f) (W := W) HM.out (by omega) (by omega) (by omega) (by omega) (by omega) hs1).mono ?_
  rintro e w3 ⟨x, A3, rfl, h3⟩
  obtain ⟨s, hs⟩ : ∃ s, W / k = s := ⟨_, rfl⟩
  rw [hs] at h3 hsk hs1 hdiv
  clear hs
  have H3 : Hid (Mid w (w3.alloc (.cells #[.slice none 0 0] 31)) b x k f s w3.heap.size 0) := ⟨A3, _, _, [], JM.start h3, ⟨fun c _ => rfl, by simp⟩, by simp⟩
  clear h3 HM
  obtain ⟨B, hB⟩ : ∃ B, w3.heap.size = B := ⟨_, rfl⟩
  rw [hB] at H3
  have HB : Hid (w3.heap.size = B) := hB
  go_wp2_with (first
    | (go_at_call 9; refine (num _ _).mono ?_; rintro e w' ⟨rfl, hw'⟩; have hw2 := hw'.symm; subst hw2))
  clear hm hf hm3 hB HB
  go_loopw [17] (fun i wr => ∃ n : Nat, n ≤ len0 ∧ n ≤ 150 ∧ i = .int .i64 (n : Int) ∧ Hid (Mid w wr b x k f s B n)) (fun i _ => (150 - intOf i).toNat)
  case atStart => exact ⟨0, by omega, by omega, rfl, H3⟩
  case round =>
    obtain ⟨n, hn, hn2, rfl, HS⟩ := hrel
    clear H3
    by_cases hlt : n < len0 ∧ n < 150
    · obtain ⟨hlt, hlt2⟩ := hlt
      have i0 : (0 : Int) ≤ (n : Int) := by omega
      have i1 : (n : Int) < (len0 : Int) := by omega
      have i2 : (n : Int) < 150 := by omega
      obtain ⟨A, P, v, bs, hj, hr, hbl⟩ := HS.out
      obtain ⟨bb, off, ea, kd, co, sz, K, q0, q1, q2, q3⟩ := HT.out.2.2 n hlt
      subst ea
      have x0 := hj.d.st.kept.cell q0 (by simp)
      have x1 := hj.d.st.kept.cell q1 (by simp)
      have x2 := hj.d.st.kept.cell q2 (by simp)
      have x3 := hj.d.st.kept.cell q3 (by simp)
      have hKY : Kept [] wr (wr.alloc (.cells #[.int .i64 kd, .int .i64 co, .int .i64 sz, .int .i64 K] 33)) := (Kept.refl _ _).alloc _
      have hY := Go.heap_alloc_new wr (.cells #[.int .i64 kd, .int .i64 co, .int .i64 sz, .int .i64 K] 33)
      have hJY := hj.still hKY
      have dE := hj.d.more hKY (wr.heap.size :: B :: v.ownBlock.toList) (fun i hi => by
        rcases List.mem_cons.1 hi with h1 | h1
        · exact Or.inr (by simp; omega)
        · exact Or.inl h1)
      have HR : Hid (_ ∧ _ ∧ _ ∧ _ ∧ _) := ⟨hJY, hr, hbl, dE, hY⟩
      have y0 : (wr.alloc (.cells #[.int .i64 kd, .int .i64 co, .int .i64 sz, .int .i64 K] 33)).cell? ⟨wr.heap.size, 0, none⟩ = some (.int .i64 kd) := cellB hY
      have y1 : (wr.alloc (.cells #[.int .i64 kd, .int .i64 co, .int .i64 sz, .int .i64 K] 33)).cell? ⟨wr.heap.size, 1, none⟩ = some (.int .i64 co) := cellB hY
      have y2 : (wr.alloc (.cells #[.int .i64 kd, .int .i64 co, .int .i64 sz, .int .i64 K] 33)).cell? ⟨wr.heap.size, 2, none⟩ = some (.int .i64 sz) := cellB hY
      have y3 : (wr.alloc (.cells #[.int .i64 kd, .int .i64 co, .int .i64 sz, .int .i64 K] 33)).cell? ⟨wr.heap.size, 3, none⟩ = some (.int .i64 K) := cellB hY
      clear hj hr hbl hJY dE hKY hY q0 q1 q2 q3 HS
      by_cases hkd : 3 < kd
      · have b0 : decide (3 < kd) = true := by simpa using hkd
        by_cases hc : bs = [] ∨ K < 0
        · go_wp2_with fail
          refine (freed_none HR.out.1 HR.out.2.1 (900000 - 300 * (n + 1)) (by omega) kd co sz K (by have := HR.out.2.2.1; omega) hc).mono ?_
          rintro e w4 ⟨rfl, A4, P4, v4, bs4, j4, r4, l4⟩
          have HN : Hid (Mid w w4 b x k f s B (n + 1)) := ⟨A4, P4, v4, bs4, j4, r4, by have := HR.out.2.2.1; omega⟩
          clear j4 r4 l4 HR x0 x1 x2 x3 y0 y1 y2 y3
          go_wp2
          go_roundw
          case rel => exact ⟨n + 1, by omega, by omega, by go_num, HN⟩
          case measure => simp [intOf]; omega
        · obtain ⟨Kn, rfl⟩ : ∃ Kn : Nat, K = (Kn : Int) := ⟨K.toNat, by omega⟩
          have hb0 : 0 < bs.length := by
            rcases Nat.eq_zero_or_pos bs.length with h1 | h1
            · exact absurd (Or.inl (List.eq_nil_of_length_eq_zero h1)) hc
            · exact h1
          clear hc
          go_wp2_with fail
          refine (freed_some HR.out.1 HR.out.2.1 HT.out.1 (900000 - 300 * (n + 1)) (by omega) kd co sz Kn (by have := HR.out.2.2.1; omega) hb0).mono ?_
          rintro e w4 ⟨rfl, A4, P4, v4, bs4, j4, r4, l4⟩
          have HN : Hid (Mid w w4 b x k f s B (n + 1)) := ⟨A4, P4, v4, bs4, j4, r4, by have := HR.out.2.2.1; omega⟩
          clear j4 r4 l4 HR x0 x1 x2 x3 y0 y1 y2 y3
          go_wp2
          go_roundw
          case rel => exact ⟨n + 1, by omega, by omega, by go_num, HN⟩
          case measure => simp [intOf]; omega
      · have b0 : decide (3 < kd) = false := by simpa using hkd
        by_cases hform : co < 0 ∨ (k : Int) ≤ co ∨ sz < 1 ∨ 32 < sz
        · go_wp2_with fail
          refine (d_form HR.out.2.2.2.1 co sz hform).mono ?_
          rintro e w4 ⟨rfl, d4, s4⟩
          have hY4 : w4.heap[wr.heap.size]? = some (.cells #[.int .i64 kd, .int .i64 co, .int .i64 sz, .int .i64 K] 33 (0, 0)) := by rw [s4 _ (List.mem_cons_self)]; exact HR.out.2.2.2.2
          have z1 : w4.cell? ⟨wr.heap.size, 1, none⟩ = some (.int .i64 co) := cellB hY4
          have z2 : w4.cell? ⟨wr.heap.size, 2, none⟩ = some (.int .i64 sz) := cellB hY4
          have j4 := HR.out.1.keep (d4.sub (fun i hi => List.mem_cons_of_mem _ hi)) (fun i hi => s4 i (List.mem_cons_of_mem _ hi))
          have HN : Hid (Mid w w4 b x k f s B (n + 1)) := ⟨A, P, v, bs, ⟨j4.d.less (by omega), j4.cell, j4.own, j4.nb, j4.nx, j4.blo, j4.bx⟩, HR.out.2.1, by have := HR.out.2.2.1; omega⟩
          clear d4 s4 hY4 j4 HR x0 x1 x2 x3 y0 y1 y2 y3
          by_cases f0 : co < 0
          · have e0 : decide (co < 0) = true := by simpa using f0
            clear hform
            go_wp2_with (first
              | (go_at_call 9; refine (num _ _).mono ?_; rintro e w' ⟨rfl, hw'⟩; have hw2 := hw'.symm; subst hw2))
            go_roundw
            case rel => exact ⟨n + 1, by omega, by omega, by go_num, HN⟩
            case measure => simp [intOf]; omega
          · have e0 : decide (co < 0) = false := by simpa using f0
            by_cases f1 : (k : Int) ≤ co
            · have e1 : decide ((k : Int) ≤ co) = true := by simpa using f1
              clear hform
              go_wp2_with (first
                | (go_at_call 9; refine (num _ _).mono ?_; rintro e w' ⟨rfl, hw'⟩; have hw2 := hw'.symm; subst hw2))
              go_roundw
              case rel => exact ⟨n + 1, by omega, by omega, by go_num, HN⟩
              case measure => simp [intOf]; omega
            · have e1 : decide ((k : Int) ≤ co) = false := by simpa using f1
              by_cases f2 : sz < 1
              · have e2 : decide (sz < 1) = true := by simpa using f2
                clear hform
                go_wp2_with (first
                  | (go_at_call 9; refine (num _ _).mono ?_; rintro e w' ⟨rfl, hw'⟩; have hw2 := hw'.symm; subst hw2))
                go_roundw
                case rel => exact ⟨n + 1, by omega, by omega, by go_num, HN⟩
                case measure => simp [intOf]; omega
              · have e2 : decide (sz < 1) = false := by simpa using f2
                have f3 : 32 < sz := by omega
                have e3 : decide (32 < sz) = true := by simpa using f3
                clear hform
                go_wp2_with (first
                  | (go_at_call 9; refine (num _ _).mono ?_; rintro e w' ⟨rfl, hw'⟩; have hw2 := hw'.symm; subst hw2))
                go_roundw
                case rel => exact ⟨n + 1, by omega, by omega, by go_num, HN⟩
                case measure => simp [intOf]; omega
        · obtain ⟨c, rfl⟩ : ∃ c : Nat, co = (c : Int) := ⟨co.toNat, by omega⟩
          obtain ⟨z, rfl⟩ : ∃ z : Nat, sz = (z : Int) := ⟨sz.toNat, by omega⟩
          have hc : c < k := by omega
          have hz1 : 1 ≤ z := by omega
          have hz2 : z ≤ 32 := by omega
          have e0 : decide ((c : Int) < 0) = false := by simp
          have e1 : decide ((k : Int) ≤ (c : Int)) = false := by simp; omega
          have e2 : decide ((z : Int) < 1) = false := by simp; omega
          have e3 : decide (32 < (z : Int)) = false := by simp; omega
          clear hform
          by_cases hfit : loads (P c) + z + 2 ≤ s / 4
          · go_wp2_with fail
            refine (d_get HR.out.2.2.2.1 hc (900000 - 300 * n - 100) (by omega) z hz1 hz2 hfit).mono ?_
            rintro e w4 ⟨pos, A4, rfl, d4, s4, hp, hz0⟩
            have hY4 : w4.heap[wr.heap.size]? = some (.cells #[.int .i64 kd, .int .i64 (c : Int), .int .i64 (z : Int), .int .i64 K] 33 (0, 0)) := by rw [s4 _ (List.mem_cons_self)]; exact HR.out.2.2.2.2
            have z1 : w4.cell? ⟨wr.heap.size, 1, none⟩ = some (.int .i64 (c : Int)) := cellB hY4
            have z2 : w4.cell? ⟨wr.heap.size, 2, none⟩ = some (.int .i64 (z : Int)) := cellB hY4
            have hbs := HR.out.2.1.beside hc d4.st hp
            have hwi : f + c * s + s ≤ f + k * s := by have := mul_next s hc; omega
            have hhr := heap_room (a := f + c * s) d4.st.slo
            have j4 := HR.out.1.keep (d4.sub (fun i hi => List.mem_cons_of_mem _ hi)) (fun i hi => s4 i (List.mem_cons_of_mem _ hi))
            have hwb : ∀ y ∈ bs, y.2.1 + y.2.2 ≤ 100000 := fun y hy => by
              have h1 := (Rel.within HR.out.1.d.st HR.out.2.1 hy).2
              have h2 := mul_next s (HR.out.2.1.place y hy).1
              omega
            obtain ⟨t, ht⟩ : ∃ t, heap (f + c * s) s + pos = t := ⟨_, rfl⟩
            have hrl := HR.out.2.1.add c pos z hc
            rw [ht] at hbs hz0 hrl ⊢
            have htf : f ≤ t := by omega
            have htw : t + z ≤ f + W := by omega
            have hX := Go.heap_alloc_new w4 (.cells #[.int .i64 (c : Int), .int .i64 (t : Int), .int .i64 (z : Int)] 39)
            have hKX : Kept [] w4 (w4.alloc (.cells #[.int .i64 (c : Int), .int .i64 (t : Int), .int .i64 (z : Int)] 39)) := (Kept.refl _ _).alloc _
            have jX := j4.still hKX
            have dX := j4.d.more hKX (w4.heap.size :: B :: v.ownBlock.toList) (fun i hi => by
              rcases List.mem_cons.1 hi with h1 | h1
              · exact Or.inr (by simp; omega)
              · exact Or.inl h1)
            have x40 : (w4.alloc (.cells #[.int .i64 (c : Int), .int .i64 (t : Int), .int .i64 (z : Int)] 39)).cell? ⟨w4.heap.size, 0, none⟩ = some (.int .i64 (c : Int)) := cellB hX
            have x41 : (w4.alloc (.cells #[.int .i64 (c : Int), .int .i64 (t : Int), .int .i64 (z : Int)] 39)).cell? ⟨w4.heap.size, 1, none⟩ = some (.int .i64 (t : Int)) := cellB hX
            have x42 : (w4.alloc (.cells #[.int .i64 (c : Int), .int .i64 (t : Int), .int .i64 (z : Int)] 39)).cell? ⟨w4.heap.size, 2, none⟩ = some (.int .i64 (z : Int)) := cellB hX
            have cX : (w4.alloc (.cells #[.int .i64 (c : Int), .int .i64 (t : Int), .int .i64 (z : Int)] 39)).cell? ⟨B, 0, none⟩ = some v := cellB jX.cell
            have hap := apart_any jX.own c t z f W htf htw (by omega) (by have := HR.out.2.2.1; omega) hwb hbs
            have H4 : Hid (_ ∧ _ ∧ _ ∧ _ ∧ _) := ⟨hap, jX, hX, hrl, dX⟩
            have HZ0 : Hid (_ ∧ _ ∧ _) := ⟨hz0, hp, ht⟩
            clear d4 s4 hY4 hbs hwi hhr j4 hwb hrl hX hKX jX dX hap hz0 hp ht y0 y1 y2 y3 x0 x1 x2 x3
            go_wp2_with (first
              | (go_at_call 9; refine (num _ _).mono ?_; rintro e w' ⟨rfl, hw'⟩; have hw2 := hw'.symm; subst hw2))
            refine H4.out.1.mono ?_
            rintro e w5 ⟨rfl, hk5⟩
            have hX5 : w5.heap[w4.heap.size]? = some (.cells #[.int .i64 (c : Int), .int .i64 (t : Int), .int .i64 (z : Int)] 39 (0, 0)) := by
              rw [hk5.block _ (lt_of_heap H4.out.2.2.1) (by simp)]; exact H4.out.2.2.1
            have u0 : w5.cell? ⟨w4.heap.size, 0, none⟩ = some (.int .i64 (c : Int)) := cellB hX5
            have u1 : w5.cell? ⟨w4.heap.size, 1, none⟩ = some (.int .i64 (t : Int)) := cellB hX5
            have u2 : w5.cell? ⟨w4.heap.size, 2, none⟩ = some (.int .i64 (z : Int)) := cellB hX5
            have j5 := H4.out.2.1.still hk5
            have d5 := (H4.out.2.2.2.2.still hk5).1
            have hbl := d_blank d5 hc (900000 - 300 * n - 200) (by omega) pos z hz2 HZ0.out.2.1 (by rw [HZ0.out.2.2]; exact HZ0.out.1)
            rw [HZ0.out.2.2] at hbl
            have H5 : Hid (_ ∧ _ ∧ _) := ⟨hbl, j5, hX5⟩
            clear hbl j5 hX5 d5 hk5 x40 x41 x42 cX z1 z2
            go_wp2_with fail
            refine H5.out.1.mono ?_
            rintro e w6 ⟨rfl, A6, d6, s6⟩
            have hX6 : w6.heap[w4.heap.size]? = some (.cells #[.int .i64 (c : Int), .int .i64 (t : Int), .int .i64 (z : Int)] 39 (0, 0)) := by rw [s6 _ (List.mem_cons_self)]; exact H5.out.2.2
            have t0 : w6.cell? ⟨w4.heap.size, 0, none⟩ = some (.int .i64 (c : Int)) := cellB hX6
            have t1 : w6.cell? ⟨w4.heap.size, 1, none⟩ = some (.int .i64 (t : Int)) := cellB hX6
            have t2 : w6.cell? ⟨w4.heap.size, 2, none⟩ = some (.int .i64 (z : Int)) := cellB hX6
            have j6 := H5.out.2.1.keep (d6.sub (fun i hi => List.mem_cons_of_mem _ hi)) (fun i hi => s6 i (List.mem_cons_of_mem _ hi))
            have c6 : w6.cell? ⟨B, 0, none⟩ = some v := cellB j6.cell
            obtain ⟨u, w7, hrun, ⟨au, nu, capu, eu⟩, c7, f7, j7⟩ := j6.add c t z (by have := HR.out.2.2.1; omega)
            subst eu
            have HN : Hid (Mid w (w7.setCell ⟨B, 0, none⟩ (.slice au nu capu)) b x k f s B (n + 1)) := ⟨A6, _, _, _, ⟨j7.d.less (by omega), j7.cell, j7.own, j7.nb, j7.nx, j7.blo, j7.bx⟩, H4.out.2.2.2.1, by have := HR.out.2.2.1; simp; omega⟩
            clear d6 s6 hX6 j6 j7 u0 u1 u2
            go_wp2_with (first
              | (at_builtin; refine wpList_append_run _ rfl _ _ 31 31 rfl _ _ rfl rfl _ _ hrun ?_))
            go_roundw
            case rel => exact ⟨n + 1, by omega, by omega, by go_num, HN⟩
            case measure => simp [intOf]; omega
          · go_wp2_with fail
            refine (d_full HR.out.2.2.2.1 hc (900000 - 300 * (n + 1)) (by omega) z hz1 hz2 (by omega)).mono ?_
            rintro e w4 ⟨rfl, A4, d4, s4⟩
            have hY4 : w4.heap[wr.heap.size]? = some (.cells #[.int .i64 kd, .int .i64 (c : Int), .int .i64 (z : Int), .int .i64 K] 33 (0, 0)) := by rw [s4 _ (List.mem_cons_self)]; exact HR.out.2.2.2.2
            have z1 : w4.cell? ⟨wr.heap.size, 1, none⟩ = some (.int .i64 (c : Int)) := cellB hY4
            have z2 : w4.cell? ⟨wr.heap.size, 2, none⟩ = some (.int .i64 (z : Int)) := cellB hY4
            have j4 := HR.out.1.keep (d4.sub (fun i hi => List.mem_cons_of_mem _ hi)) (fun i hi => s4 i (List.mem_cons_of_mem _ hi))
            have hcn := HR.out.2.1.cnt hc
            have hml := (j4.d.st.inv c hc).most
            obtain ⟨av, capv, ev, hrd⟩ := j4.own.read
            subst ev
            have cB4 : w4.cell? ⟨B, 0, none⟩ = some (.slice av bs.length capv) := cellB j4.cell
            have H4 : Hid (_ ∧ _ ∧ _ ∧ _ ∧ _ ∧ _) := ⟨j4, HR.out.2.1, HR.out.2.2.1, hrd, cB4, z1⟩
            have hbl := HR.out.2.2.1
            clear d4 s4 hY4 j4 hrd HR x0 x1 x2 x3 y0 y1 y2 y3
            obtain ⟨L, hL⟩ : ∃ L, loads (P c) = L := ⟨_, rfl⟩
            rw [hL] at hcn hml hfit
            clear hL
            go_wp2_with (first
              | (go_at_call 9; refine (num _ _).mono ?_; rintro e w' ⟨rfl, hw'⟩; have hw2 := hw'.symm; subst hw2))
            clear z1 z2 cB4
            go_loopw [21, 22] (fun sm j w5 => ∃ i : Nat, i ≤ bs.length ∧ j = .int .i64 (i : Int) ∧ sm = .int .i64 ((z + 2 + cnt c (bs.take i) : Nat) : Int) ∧ Hid (Kept [] w4 w5)) (fun _ j _ => (bs.length - intOf j).toNat)
            case atStart => exact ⟨0, by omega, rfl, by simp [cnt], Kept.refl _ _⟩
            case round =>
              obtain ⟨i, hi, rfl, rfl, HK5⟩ := hrel
              have cB5 := HK5.out.cell H4.out.2.2.2.2.1 (by simp)
              have z5 := HK5.out.cell H4.out.2.2.2.2.2 (by simp)
              have hle := cnt_le c bs i
              by_cases hil : i < bs.length
              · have p0 : (0 : Int) ≤ (i : Int) := by omega
                have p1 : (i : Int) < (bs.length : Int) := by omega
                obtain ⟨g, eg, g0, g1, g2⟩ := H4.out.2.2.2.1 i hil
                subst eg
                have r0 := HK5.out.cell g0 (by simp)
                have r2 := HK5.out.cell g2 (by simp)
                have hnx := cnt_next c bs i hil
                have hle2 := cnt_le c bs (i + 1)
                clear g0 g1 g2
                generalize (bs[i]).1 = yc at *
                generalize (bs[i]).2.2 = yz at *
                by_cases hyc : yc = c
                · subst hyc
                  rw [if_pos rfl] at hnx
                  have b1 : ((yc : Int) == (yc : Int)) = true := by simp
                  have HE : Hid (_) := hnx
                  clear hnx
                  generalize cnt yc (bs.take i) = S0 at *
                  have HE2 : Hid (cnt yc (bs.take (i + 1)) = S0 + (yz + 2)) := HE.out
                  rw [HE2.out] at hle2
                  clear HE
                  go_wp2_with fail
                  go_quiet (fail)
                  have hKq : Kept [] wr (wr.drewN nq) := (Kept.refl _ _).drewN nq
                  have cB6 := hKq.cell cB5 (by simp)
                  have r26 := hKq.cell r2 (by simp)
                  go_wp2
                  go_roundw
                  case rel => exact ⟨i + 1, by omega, by go_num, by rw [HE2.out]; congr 1; omega, HK5.out.drewN nq⟩
                  case measure => simp [intOf]; omega
                · rw [if_neg hyc, Nat.add_zero] at hnx
                  have b1 : ((yc : Int) == (c : Int)) = false := by simp only [beq_eq_false_iff_ne, ne_eq]; omega
                  have HE : Hid (_) := hnx
                  clear hnx
                  go_wp2_with fail
                  go_quiet (fail)
                  go_wp2
                  go_roundw
                  case rel => exact ⟨i + 1, by omega, by go_num, by rw [HE.out]; rfl, HK5.out.drewN nq⟩
                  case measure => simp [intOf]; omega
              · have p1 : ¬ (i : Int) < (bs.length : Int) := by omega
                obtain rfl : i = bs.length := by omega
                rw [List.take_length, hcn] at *
                have hs4 : (s : Int) / 4 < ((z + 2 + L : Nat) : Int) := by omega
                have b9 : decide (((z + 2 + L : Nat) : Int) ≤ (s : Int) / 4) = false := by simp only [decide_eq_false_iff_not]; omega
                have HN : Hid (Mid w wr b x k f s B (n + 1)) := ⟨A4, P, _, bs, H4.out.1.still HK5.out, H4.out.2.1, by omega⟩
                clear hle HK5 H4
                go_wp2
                go_roundw
                case rel => exact ⟨n + 1, by omega, by omega, by go_num, HN⟩
                case measure => simp [intOf]; omega
    · by_cases hx : n < len0
      · have i1 : (n : Int) < (len0 : Int) := by omega
        have i2 : ¬ (n : Int) < 150 := by omega
        obtain ⟨A, P, v, bs, hj, hr, hbl⟩ := HS.out
        have HJ : Hid (_) := hj
        clear hj hr hbl HS
        go_wp2_with fail
        refine (awake_any (Tab.kept HT.out.1 HJ.out.d.st.kept (by simp))).mono ?_
        rintro e w4 ⟨rfl, hk4⟩
        have HK4 : Hid (_) := hk4
        clear hk4
        go_wp2
        go_ret
        exact ⟨rfl, HJ.out.d.st.kept.trans HK4.out (by simp)⟩
      · have i1 : ¬ (n : Int) < (len0 : Int) := by omega
        obtain ⟨A, P, v, bs, hj, hr, hbl⟩ := HS.out
        have HJ : Hid (_) := hj
        clear hj hr hbl HS
        go_wp2_with fail
        refine (awake_any (Tab.kept HT.out.1 HJ.out.d.st.kept (by simp))).mono ?_
        rintro e w4 ⟨rfl, hk4⟩
        have HK4 : Hid (_) := hk4
        clear hk4
        go_wp2
        go_ret
        exact ⟨rfl, HJ.out.d.st.kept.trans HK4.out (by simp)⟩

theorem walk (a0 a1 a2 : Int) (aa : Option Addr) (len0 cap0 : Nat) (w : World) (hT : Tab w) (_ : (Lit.int .i64 a0).wf = true) (_ : (Lit.int .i64 a1).wf = true) (_ : (Lit.int .i64 a2).wf = true) (ha : IsActs w aa len0) :
    Calls Tryd.prog 3 #[.int .i64 a0, .int .i64 a1, .int .i64 a2, .slice aa len0 cap0] w fun e w' => e = .returned (.bool true) ∧ Below w.heap.size w w' :=
  (walk0 a0 a1 a2 aa len0 cap0 w hT ha).mono fun e w' ⟨he, hk⟩ => ⟨he, hk.below (Nat.le_refl _) (by simp)⟩

theorem acts_at {H : Type} {enc : TypeId × Value → H} {w : World} {base : Nat} {spare : Nat → Bool} {held : Bool} {fuel : Nat} {a : Option Addr} {len cap : Nat} {x : DataW H × List MemPlace}
    (h : DataW.trod enc Tryd.prog w base spare held fuel 22 [.slice a len cap] = some x) : IsActs w a len := by
  rcases Deep.open_slice Tryd.underlying22 h with ⟨hcs, _⟩ | ⟨a', len', cap', m, n, D, Pl, hcs, hb, hl, hm, hmm, _, hx⟩
  · simp at hcs
    exact ⟨by omega, fun i hi => by omega⟩
  · simp at hcs
    obtain ⟨rfl, rfl, rfl⟩ := hcs
    have hlm : len ≤ m := by rw [hmm]; split <;> omega
    have ce : Tryd.prog.cellsOf 33 = 4 := by kernel_rfl
    rw [ce] at hx
    have each : ∀ i, i < len → ∃ kd co sz K : Int, w.cell? (a'.add (i * 4)) = some (.int .i64 kd) ∧ w.cell? (a'.add (i * 4 + 1)) = some (.int .i64 co) ∧ w.cell? (a'.add (i * 4 + 2)) = some (.int .i64 sz) ∧ w.cell? (a'.add (i * 4 + 3)) = some (.int .i64 K) := by
      intro i hi
      obtain ⟨cs', h1, h2⟩ := hx i (by omega)
      obtain ⟨_, hlen, hcell⟩ := World.cells?_some h1
      obtain ⟨xs, k, hk, hxy, _, hxl, hf⟩ := DataW.trod_struct Tryd.underlying33 h2
      match xs, hxl, cs', hlen with
      | [y0, y1, y2, y3], _, [v0, v1, v2, v3], _ =>
        have g0 := hf 0 _ rfl
        have g1 := hf 1 _ rfl
        have g2 := hf 2 _ rfl
        have g3 := hf 3 _ rfl
        simp [show Tryd.prog.cellsOf 3 = 1 from by kernel_rfl] at g0 g1 g2 g3
        have e0 := hcell 0 (by omega)
        have e1 := hcell 1 (by omega)
        have e2 := hcell 2 (by omega)
        have e3 := hcell 3 (by omega)
        rw [Deep.add_add] at e0 e1 e2 e3
        obtain ⟨z0, q0, -, -⟩ := DataW.trod_int Tryd.underlying3 g0
        obtain ⟨z1, q1, -, -⟩ := DataW.trod_int Tryd.underlying3 g1
        obtain ⟨z2, q2, -, -⟩ := DataW.trod_int Tryd.underlying3 g2
        obtain ⟨z3, q3, -, -⟩ := DataW.trod_int Tryd.underlying3 g3
        simp at q0 q1 q2 q3 e0 e1 e2 e3
        subst q0 q1 q2 q3
        exact ⟨z0, z1, z2, z3, e0, e1, e2, e3⟩
    refine ⟨by unfold maxLen at hm; omega, fun i hi => ?_⟩
    obtain ⟨B, off, spot⟩ := a'
    obtain ⟨o0, -, -, -, oz, -⟩ := each 0 (by omega)
    have hspot : spot = none := by simpa [Addr.add] using World.cell?_spot oz
    subst hspot
    obtain ⟨z0, z1, z2, z3, e0, e1, e2, e3⟩ := each i hi
    rw [add_lit] at e0 e1 e2 e3
    exact ⟨B, off, rfl, z0, z1, z2, z3, e0, by simpa [Nat.add_assoc] using e1, by simpa [Nat.add_assoc] using e2, by simpa [Nat.add_assoc] using e3⟩

set_option maxRecDepth 100000 in
theorem lifted (os : Os) (started : os.Started) (H : Type) (enc : TypeId × Value → H) :
    ReturnsInHanded {} Tryd.checked os 3 .any (fun w args => (Rows.allocActsSpec.pre enc Tryd.prog Tryd.f3 [] false w args ∧ laidMetH Tryd.prog laid1 w) ∧ sizedMet enc Tryd.prog Tryd.f3 (OpenSpec.ofChange Rows.allocActsSpec) false w args)
      (Rows.allocActsSpec.post enc Tryd.prog Tryd.f3 false true false false) := by
  refine returnsInHanded_of_change_and (C := Tryd.checked) (X := fun w _ => laidMetH Tryd.prog laid1 w) (fun _ _ _ hh h => h.of_heap hh) own started (by kernel_rfl) Tryd.func3
    (ChangeSpec.witness_shaped (enc := enc) (C := Tryd.checked) (os := os) (X := fun w _ => laidMetH Tryd.prog laid1 w) false (World.doorLaid Tryd.prog 400 os) #[.int .i64 0, .int .i64 0, .int .i64 0, .slice none 0 0] 8 rfl (World.shaped_of_RefB (by kernel_rfl) (by kernel_rfl)) (by kernel_rfl) (by kernel_rfl) (by kernel_rfl) (door_met os _)) ?_
  intro W base args ds gs before hval0 hW _ _ hL _
  have hval : ∀ (j : Nat) t v, Tryd.f3.params[j]? = some t → args[j]? = some v → Value.okWide Tryd.prog W .any base t v := hval0
  have hW' := hW
  obtain ⟨p, q, hA0, hV, rfl, hfz, hnd⟩ := hW
  have hA : DataW.TrodAll enc Tryd.prog W 0 (fun _ => true) true Tryd.f3.params.toList args.toList ds p := hA0
  rw [Tryd.params3] at hA hval
  obtain ⟨v0, vs0, d0, ds0, p0, q0, hargs, rfl, rfl, h0, r0⟩ := trodAll_cons hA
  obtain ⟨v1, vs1, d1, ds1, p1, q1, rfl, rfl, rfl, h1, r1⟩ := trodAll_cons r0
  obtain ⟨v2, vs2, d2, ds2, p2, q2, rfl, rfl, rfl, h2, r2⟩ := trodAll_cons r1
  obtain ⟨v3, vs3, d3, ds3, p3, q3, rfl, rfl, rfl, h3, r3⟩ := trodAll_cons r2
  obtain ⟨rfl, rfl, rfl⟩ := trodAll_nil r3
  obtain rfl : args = #[v0, v1, v2, v3] := by cases args; simp_all
  obtain ⟨rfl, rfl⟩ := trodVars_none hV
  obtain ⟨a0, rfl, rfl, rfl, w0⟩ := open_int Tryd.underlying3 (hval 0 3 v0 rfl rfl) h0
  obtain ⟨a1, rfl, rfl, rfl, w1⟩ := open_int Tryd.underlying3 (hval 1 3 v1 rfl rfl) h1
  obtain ⟨a2, rfl, rfl, rfl, w2⟩ := open_int Tryd.underlying3 (hval 2 3 v2 rfl rfl) h2
  obtain ⟨a3, len3, cap3, rfl⟩ := okWide_slice Tryd.underlying22 (hval 3 22 v3 rfl rfl)
  have k3 := h3
  have lt3 : ∀ x ∈ p3, x.block < W.heap.size := by obtain ⟨m, hm⟩ := k3; exact DataW.trod_lt m _ _ _ hm
  have w3 : IsActs W a3 len3 := by
    obtain ⟨fuel, hf⟩ := h3
    exact acts_at hf
  clear hA0 hval0
  refine (walk a0 a1 a2 a3 len3 cap3 W (of_laid hL) w0 w1 w2 w3).mono fun e W' ⟨he, bel⟩ => ?_
  subst he
  exact ⟨_, rfl, _, _, _, [], _, [], hW', trodAll_mk1 (shut_bool Tryd.underlying4 _), (trodAll_cons_mk (shut_int Tryd.underlying3 w0) (trodAll_cons_mk (shut_int Tryd.underlying3 w1) (trodAll_cons_mk (shut_int Tryd.underlying3 w2) (trodAll_cons_mk (Below.trod laidOut (by kernel_rfl) (of_decide_eq_true (by kernel_rfl)) k3 bel lt3) trodAll_mk0)))), rfl, bel.frame _, fun h => by cases h⟩

theorem over : Rows.allocActsRow.holds Tryd.pinned (OpenSpec.ofChange Rows.allocActsSpec) :=
  OpenClaim.holds_of_wide 3 Tryd.f3 rfl rfl rfl rfl rfl rfl rfl ⟨rfl, rfl, rfl, rfl, rfl⟩ rfl rfl rfl rfl rfl (by kernel_rfl) Tryd.func3 (by kernel_rfl)
    (of_decide_eq_true (by kernel_rfl)) (by unfold Func.isWrapper; first | (rw [if_pos (by decide +kernel)]; kernel_rfl) | (rw [if_neg (by decide +kernel)]; exact ⟨rfl, rfl⟩))
    (fun os started H enc _ => lifted os started H enc)

theorem card : Rows.AllocActsCardSaid :=
  Claim7.holds_tied_plain_at .later [] [.data] true (true, "dc9a8a4a362bad82089852e931c949fb14dc5bffdd24db5c8f597f69135225ba") true
    over (fun _ h => by cases h) (by kernel_rfl) (fun _ h => by cases h) allocActs_row_tie rfl ⟨rfl, rfl⟩ (by kernel_rfl) rfl
    (fun f fn hf hfn => by
      obtain rfl : f = 3 := Option.some.inj ((show Tryd.prog.funcNamed "concourse/concourselaw4.AllocActs" = some 3 by kernel_rfl).symm.trans hf) |>.symm
      obtain rfl : fn = Tryd.f3 := (Option.some.inj (Tryd.func3.symm.trans hfn)).symm
      exact ⟨by kernel_rfl, fun j t ht => by
        rw [Tryd.params3] at ht
        have hm : t ∈ [3, 3, 3, 22] := by simpa using Array.mem_of_getElem? ht
        have hall : ([3, 3, 3, 22].all fun u => !Tryd.prog.wantsStandIn u) = true := by kernel_rfl
        exact (show Tryd.prog.wantsStandIn t = false by simpa using List.all_eq_true.1 hall t hm)⟩)
    (by kernel_rfl)

end Go.Proofs.YtagnkdeeiligcaaDoor.allocActs

namespace Go.Proofs.YtagnkdeeiligcaaDoor
theorem allocActs_holds : Rows.AllocActsCardSaid := allocActs.card
#print axioms allocActs_holds
end Go.Proofs.YtagnkdeeiligcaaDoor
