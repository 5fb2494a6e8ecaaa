/-
  All findings in their row, each once: the walk.
-/
import Derived.Test.YtgfdcnjnkljahaaDoorXg
namespace Go.Proofs.YtgfdcnjnkljahaaDoor
open Go.RowKit Go.Lib
set_option linter.unusedVariables false

/-- A row of findings is answered. -/
def Tells (F : List Nat) (w : World) (M : List Fi) (e : Ending) (w' : World) : Prop := ∃ vr, e = .returned vr ∧ Fr w.heap.size w' vr M ∧ Kept F w w'

theorem set_box {w : World} {R : Nat} {T : TypeId} {a b c u : Value} (h : w.heap[R]? = some (.cells #[a, b, c] T (0, 0))) : (w.setCell ⟨R, 2, none⟩ u).heap[R]? = some (.cells #[a, b, u] T (0, 0)) := by
  rw [Go.heap_setCell_same w R 2 _ _ _ h]; rfl

theorem Ir.box {F : List Nat} {w wr w' : World} {X B : Nat} {q : Lq} {v vr : Value} {L M : List Fi} (h : Ir F w X q wr v vr L M) (k : Kept [B] wr w') (hB : B ∉ F) (hw : w.heap.size ≤ B) (hr : vr.ownBlock ≠ some B) : Ir F w X q w' v vr L M := by
  have ne : ∀ x ∈ F, x ∉ [B] := fun x hx e => by simp at e; subst e; exact hB hx
  refine ⟨⟨h.tl.kept.trans k (fun x hx => by simp at hx; subst hx; exact Or.inr hw), h.tl.inF, by rw [k.block X (lt_of_heap h.tl.blk) (ne X h.tl.inF)]; exact h.tl.blk, ⟨h.tl.row.1, ?_⟩, h.tl.own⟩, h.ow, ⟨h.fr.1, ?_⟩, h.lt⟩
  · rcases h.tl.row.2 with hn | ⟨g, cap, cur, rfl, hb, hgg, rest⟩
    · exact .inl hn
    · exact .inr ⟨g, cap, cur, rfl, hb, by rw [k.block g (lt_of_heap hgg) (ne g (h.ow g rfl))]; exact hgg, rest⟩
  · rcases h.fr.2 with hn | ⟨g, cap, cur, rfl, hb, hgg, rest⟩
    · exact .inl hn
    · exact .inr ⟨g, cap, cur, rfl, hb, by rw [k.block g (lt_of_heap hgg) (fun e => by simp at e; exact hr (by rw [e]; rfl))]; exact hgg, rest⟩

/-- How many findings lie there. -/
def lenAt (w : World) (X : Nat) : Nat := match w.cell? ⟨X, 7, none⟩ with
  | some (.slice _ n _) => n
  | _ => 0

theorem Tl.lenAt {F : List Nat} {w0 w : World} {X : Nat} {q : Lq} {v : Value} {L : List Fi} (h : Tl F w0 X q w v L) : lenAt w X = L.length := by
  obtain ⟨a, c, rfl⟩ := h.val
  unfold Go.Proofs.YtgfdcnjnkljahaaDoor.lenAt
  rw [h.c7]

set_option maxRecDepth 100000 in
set_option maxHeartbeats 16000000 in
theorem t_inRow {F0 : List Nat} {w0 w : World} {X : Nat} {q : Lq} {v : Value} {L : List Fi} (h : Tl F0 w0 X q w v L) (hl : L.length ≤ 4000000000000) (hs : ∀ f ∈ L, f.name.size ≤ 140737488351232) :
    Calls Tryd.prog 24 #[.pointer (some ⟨X, 7, none⟩)] w fun e w' => Tells (X :: v.ownBlock.toList) w (rowF (L.length + 1) L []) e w' := by
  have hI : Ir (X :: v.ownBlock.toList) w X q w v (.slice none 0 0) L [] := by
    refine ⟨h.rebase (by simp) (fun k hk => by simp [hk]), fun k hk => by simp [hk], World.ownsRow_nil _ _ _ _, ?_⟩
    intro x hx
    rcases List.mem_cons.1 hx with rfl | hx
    · exact lt_of_heap h.blk
    · exact h.block x (by simpa using hx)
  obtain ⟨F, hF⟩ : ∃ F, F = X :: v.ownBlock.toList := ⟨_, rfl⟩
  rw [← hF] at hI ⊢
  have HI : Hid (Ir F w X q w v (.slice none 0 0) L []) := hI
  have HS : Hid (∀ f ∈ L, f.name.size ≤ 140737488351232) := hs
  clear h hI hF hs
  go_enter Tryd.func24, Tryd.ntmps24
  go_wp2_with fail
  go_loopw [3] (fun vr wr => ∃ (k : Nat) (v1 : Value) (L1 M : List Fi) (ar : Option Addr) (cr : Nat), vr = .slice ar M.length cr ∧ L1.length < k ∧ L1.length ≤ 4000000000000 ∧ M.length + L1.length ≤ L.length ∧ Hid (Ir F w X q wr v1 (.slice ar M.length cr) L1 M ∧ (∀ f ∈ L1, f ∈ L) ∧ rowF k L1 M = rowF (L.length + 1) L [])) (fun _ wr => lenAt wr X)
  case atStart => exact ⟨L.length + 1, v, L, [], none, 0, rfl, by omega, hl, by simp, HI.out, fun f hf => hf, rfl⟩
  case round =>
    obtain ⟨k, v1, L1, M, ar, cr, rfl, hk, h1l, hML, HJ⟩ := hrel
    obtain ⟨hI, hmem, hR⟩ := HJ.out
    obtain ⟨a, c, rfl⟩ := hI.tl.val
    have HI1 : Hid (Ir F w X q wr (.slice a L1.length c) (.slice ar M.length cr) L1 M) := hI
    have HM : Hid (∀ f ∈ L1, f ∈ L) := hmem
    have HR : Hid (rowF k L1 M = rowF (L.length + 1) L []) := hR
    have c7 := hI.tl.c7
    have HLn : Hid (lenAt wr X = L1.length) := hI.tl.lenAt
    clear HJ hmem hR
    cases k with
    | zero => omega
    | succ k =>
      rcases Nat.eq_zero_or_pos L1.length with h0 | h0
      · have HE : Hid (rowF (L.length + 1) L [] = M) := by show _ = _; rw [← HR.out, rowF, if_pos h0]
        have HZ : Hid (L1.length = 0) := h0
        have z1 : ¬ (0 : Int) < (L1.length : Int) := by omega
        clear h0 hI
        go_wp2_with fail
        refine (t_len _ _ _ _).mono ?_
        rintro e w6 ⟨rfl, hw6⟩
        have hw7 := hw6.symm
        subst hw7
        go_wp2_with fail
        go_ret
        exact ⟨_, rfl, by rw [HE.out]; exact HI1.out.fr, HI1.out.tl.kept⟩
      · have HN : Hid (rowF k (popF L1) (moreF M (getF L1 0)) = rowF (L.length + 1) L []) := by show _ = _; rw [← HR.out, rowF, if_neg (by omega)]
        obtain ⟨a', c', ea, -, hsl⟩ := hI.tl.slice
        injection ea with ea1 ea2 ea3
        subst ea1
        obtain ⟨g, rfl, p0, p1, p2, -⟩ := hsl 0 h0
        rw [← getF_eq h0] at p0 p1 p2
        have hfm : (getF L1 0).name.size ≤ 140737488351232 := HS.out _ (HM.out _ (by rw [getF_eq h0]; exact List.getElem_mem h0))
        obtain ⟨f, hf⟩ : ∃ f, f = getF L1 0 := ⟨_, rfl⟩
        rw [← hf] at p0 p1 p2 HN hfm
        have HSf : Hid (f.name.size ≤ 140737488351232) := hfm
        obtain ⟨U, B, HU, ku, b1⟩ := one_box wr #[.int .i64 f.kind, .int .i64 f.num, .string f.name] 42
        have hT := hI.kept ku
        have HT : Hid (Ir F w X q U (.slice (some ⟨g, 0, none⟩) L1.length c) (.slice ar M.length cr) L1 M) := hT
        have z1 : (0 : Int) < (L1.length : Int) := by omega
        have HB1 : Hid (U.heap[B]? = some (.cells #[.int .i64 f.kind, .int .i64 f.num, .string f.name] 42 (0, 0))) := b1
        have HBF : Hid (B ∉ F) := fun hb => by have := hI.lt B hb; have := hI.tl.kept.size; have e : wr.heap.size = B := HU.out.2; omega
        have p0' : wr.cell? ⟨g, 0, none⟩ = some (.int .i64 f.kind) := by simpa using p0
        have p1' : wr.cell? ⟨g, 1, none⟩ = some (.int .i64 f.num) := by simpa using p1
        have p2' : wr.cell? ⟨g, 2, none⟩ = some (.string f.name) := by simpa using p2
        have HBw : Hid (w.heap.size ≤ B ∧ (Value.slice ar M.length cr).ownBlock ≠ some B) := ⟨by have := hI.tl.kept.size; have e : wr.heap.size = B := HU.out.2; omega, fun e => by have := (hI.fr.block B e).2; have e : wr.heap.size = B := HU.out.2; omega⟩
        clear hI hsl hf hfm ku b1 hT p0 p1 p2 HR
        go_wp2_with fail
        refine (t_len _ _ _ _).mono ?_
        rintro e w6 ⟨rfl, hw6⟩
        have hw7 := hw6.symm
        subst hw7
        clear hw6
        go_wp2_with fail
        rw [HU.out.1, HU.out.2]
        clear c7 p0' p1' p2'
        obtain ⟨n, hn⟩ : ∃ n, L1.length = n + 1 := ⟨L1.length - 1, by omega⟩
        refine (h_pop (HT.out.tl.rebase HT.out.tl.inF HT.out.ow) n hn h1l).mono ?_
        rintro e w5 ⟨⟨u, rfl⟩, v5, ho, h5⟩
        have HT5 : Hid (Ir F w X q w5 v5 (.slice ar M.length cr) (popF L1) M) := HT.out.pop h5 ho
        have HB5 : Hid (w5.heap[B]? = some (.cells #[.int .i64 f.kind, .int .i64 f.num, .string f.name] 42 (0, 0))) := by
          show _ = _; rw [h5.kept.block B (lt_of_heap HB1.out) HBF.out]; exact HB1.out
        have HL5 : Hid (lenAt w5 X < lenAt wr X) := by
          show _ < _; rw [HT5.out.tl.lenAt, HLn.out, popF_length]; omega
        have HP5 : Hid ((popF L1).length + 1 = L1.length) := by show _ = _; rw [popF_length]; omega
        clear ho h5 hn HLn HT HB1 HI1 HU
        have hd : M.length = 0 ∨ 0 < M.length := by omega
        rcases hd with hd | hd
        · have b1 : ((M.length : Int) == 0) = true := by simp [hd]
          have HMo : Hid (moreF M f = M ++ [f]) := by show _ = _; unfold moreF; rw [if_pos (Or.inl hd)]
          clear hd
          go_upto_region 5 with fail
          go_quiet (fail)
          obtain ⟨W6, hW6⟩ : ∃ W6, w5.drewN nq = W6 := ⟨_, rfl⟩
          have k6 : Kept [] w5 W6 := by rw [← hW6]; exact (Kept.refl _ _).drewN _
          have HT6 : Hid (Ir F w X q W6 v5 (.slice ar M.length cr) (popF L1) M) := HT5.out.kept k6
          have HB6 : Hid (W6.heap[B]? = some (.cells #[.int .i64 f.kind, .int .i64 f.num, .string f.name] 42 (0, 0))) := by
            show _ = _; rw [k6.block B (lt_of_heap HB5.out) (by simp)]; exact HB5.out
          have HL6 : Hid (lenAt W6 X < lenAt wr X) := by
            show _ < _; rw [HT6.out.tl.lenAt, ← HT5.out.tl.lenAt]; exact HL5.out
          rw [hW6]
          clear hW6 k6 HT5 HB5 HL5
          have d2 : W6.cell? ⟨B, 2, none⟩ = some (.string f.name) := cellB HB6.out
          go_wp2_with fail
          refine (s_clone f.name _ HSf.out).mono ?_
          rintro e w7 ⟨rfl, k7⟩
          have hb7 : w7.heap[B]? = some (.cells #[.int .i64 f.kind, .int .i64 f.num, .string f.name] 42 (0, 0)) := by rw [k7.block B (lt_of_heap HB6.out) (by simp)]; exact HB6.out
          have e2 : w7.cell? ⟨B, 2, none⟩ = some (.string f.name) := cellB hb7
          have z2 : w7.frozen? ⟨B, 2, none⟩ = false := by simp [World.frozen?, hb7]
          obtain ⟨W8, hW8⟩ : ∃ W8, w7.setCell ⟨B, 2, none⟩ (.string f.name) = W8 := ⟨_, rfl⟩
          have k8 : Kept [B] W6 W8 := by rw [← hW8]; exact (k7.mono (by simp)).setCell (Or.inl (by simp)) _
          have HT8 : Hid (Ir F w X q W8 v5 (.slice ar M.length cr) (popF L1) M) := HT6.out.box k8 HBF.out HBw.out.1 HBw.out.2
          have hb8 : W8.heap[B]? = some (.cells #[.int .i64 f.kind, .int .i64 f.num, .string f.name] 42 (0, 0)) := by rw [← hW8]; exact set_box hb7
          have HW8 : Hid (w7.setCell ⟨B, 2, none⟩ (.string f.name) = W8) := hW8
          have HL8 : Hid (lenAt W8 X < lenAt wr X) := by
            show _ < _; rw [HT8.out.tl.lenAt, ← HT6.out.tl.lenAt]; exact HL6.out
          clear hW8 k8 k7 hb7 d2 HT6 HB6 HL6
          go_upto_region 7 with fail
          rw [HW8.out]
          clear HW8 e2 z2
          have g0 : W8.cell? ⟨B, 0, none⟩ = some (.int .i64 f.kind) := cellB hb8
          have g1 : W8.cell? ⟨B, 1, none⟩ = some (.int .i64 f.num) := cellB hb8
          have g2 : W8.cell? ⟨B, 2, none⟩ = some (.string f.name) := cellB hb8
          have k9 := (Kept.refl [] W8).alloc (.cells #[.int .i64 f.kind, .int .i64 f.num, .string f.name] 42 (0, 0))
          have HT9 := HT8.out.kept k9
          obtain ⟨gn, cap, w9, hr9, h92, h93, h94, h95⟩ := append_one HT9.fr (Nat.le_trans HT9.tl.kept.size (Nat.le_refl _)) W8.heap.size f (Go.heap_alloc_new _ _) (by omega) 37 37 Tryd.underlying37
          have HAp : Hid (_) := hr9
          have HT10 : Hid (Ir F w X q w9 v5 (.slice (some ⟨gn, 0, none⟩) (M.length + 1) cap) (popF L1) (M ++ [f])) := HT9.more h93 h92
          have HL9 : Hid (lenAt w9 X < lenAt wr X) := by
            show _ < _; rw [HT10.out.tl.lenAt, ← HT8.out.tl.lenAt]; exact HL8.out
          clear hb8 k9 HT9 hr9 h92 h93 h94 h95 HT8 HL8
          go_wp2_with (at_builtin; refine wpList_append_run _ rfl _ _ 37 37 rfl _ _ rfl rfl _ _ HAp.out ?_)
          clear g0 g1 g2 HAp
          go_wp2_with fail
          go_roundw
          case rel => exact ⟨k, v5, popF L1, M ++ [f], some ⟨gn, 0, none⟩, cap, by simp, by have := HP5.out; omega, by have := HP5.out; omega, by have := HP5.out; simp; omega, by rw [List.length_append]; exact HT10.out, fun x hx => HM.out x (mem_popF hx), by rw [← HMo.out]; exact HN.out⟩
          case measure => exact HL9.out
        · obtain ⟨ar', cr', ear, -, hMs⟩ := HT5.out.fr.slice
          injection ear with ear1 ear2 ear3
          subst ear1
          obtain ⟨gm, rfl, r0, r1, r2, -⟩ := hMs (M.length - 1) (by omega)
          have hl1 : M.length - 1 < M.length := by omega
          have b1 : ((M.length : Int) == 0) = false := by rw [beq_eq_false_iff_ne]; omega
          have i0 : (0 : Int) ≤ (M.length : Int) - 1 := by omega
          have i1 : (M.length : Int) - 1 < (M.length : Int) := by omega
          obtain ⟨m, hm⟩ : ∃ m, m = M.length - 1 := ⟨_, rfl⟩
          have e1 : (M.length : Int) - 1 = (m : Int) := by omega
          have e2 : IntKind.i64.wrap ((M.length : Int) - 1) = (m : Int) := by rw [e1, IntKind.wrap_i64]; omega
          rw [← getF_eq hl1, ← hm] at r0 r1 r2
          obtain ⟨y, hy⟩ : ∃ y, y = getF M m := ⟨_, rfl⟩
          rw [← hy] at r0 r1 r2
          have d0 : w5.cell? ⟨B, 0, none⟩ = some (.int .i64 f.kind) := cellB HB5.out
          have d1 : w5.cell? ⟨B, 1, none⟩ = some (.int .i64 f.num) := cellB HB5.out
          have d2 : w5.cell? ⟨B, 2, none⟩ = some (.string f.name) := cellB HB5.out
          have hq : ∀ W : World, (binOp .neq 42 (.agg #[.int .i64 y.kind, .int .i64 y.num, .string y.name]) (.agg #[.int .i64 f.kind, .int .i64 f.num, .string f.name])).run Tryd.prog W = .ok (.bool (decide (y ≠ f))) W := fun W => neq_fi y f W
          by_cases hyf : y = f
          · have HMo : Hid (moreF M f = M) := by show _ = _; unfold moreF; rw [if_neg]; rw [← hm, ← hy]; intro h; rcases h with h | h; omega; exact h hyf
            have hdc : decide (y ≠ f) = false := by simp [hyf]
            rw [hdc] at hq
            clear hMs hd hm hy hyf hdc ear2 ear3 i0 i1
            have j0 : (0 : Int) ≤ (m : Int) := by omega
            have j1 : (m : Int) < (M.length : Int) := by omega
            go_upto_region 5 with fail
            go_quiet (fail)
            clear r0 r1 r2 d0 d1 d2 hq e1 e2 j0 j1 b1
            have HT6 : Hid (_) := HT5.out.kept ((Kept.refl _ _).drewN nq)
            have HL6 : Hid (lenAt (w5.drewN nq) X < lenAt wr X) := by
              show _ < _; rw [HT6.out.tl.lenAt, ← HT5.out.tl.lenAt]; exact HL5.out
            clear HT5 HL5 HB5
            go_wp2_with fail
            go_roundw
            case rel => exact ⟨k, v5, popF L1, M, _, _, rfl, by have := HP5.out; omega, by have := HP5.out; omega, by have := HP5.out; omega, HT6.out, fun x hx => HM.out x (mem_popF hx), by have := HN.out; rw [HMo.out] at this; exact this⟩
            case measure => exact HL6.out
          · have HMo : Hid (moreF M f = M ++ [f]) := by show _ = _; unfold moreF; rw [if_pos]; rw [← hm, ← hy]; exact Or.inr hyf
            have hdc : decide (y ≠ f) = true := by simp [hyf]
            rw [hdc] at hq
            clear hMs hd hm hy hyf hdc ear2 ear3 i0 i1
            have j0 : (0 : Int) ≤ (m : Int) := by omega
            have j1 : (m : Int) < (M.length : Int) := by omega
            go_upto_region 5 with fail
            go_quiet (fail)
            clear r0 r1 r2 d0 d1 d2 hq e1 e2 j0 j1 b1
            obtain ⟨W6, hW6⟩ : ∃ W6, w5.drewN nq = W6 := ⟨_, rfl⟩
            have k6 : Kept [] w5 W6 := by rw [← hW6]; exact (Kept.refl _ _).drewN _
            have HT6 : Hid (Ir F w X q W6 v5 (.slice (some ⟨gm, 0, none⟩) M.length cr) (popF L1) M) := HT5.out.kept k6
            have HB6 : Hid (W6.heap[B]? = some (.cells #[.int .i64 f.kind, .int .i64 f.num, .string f.name] 42 (0, 0))) := by
              show _ = _; rw [k6.block B (lt_of_heap HB5.out) (by simp)]; exact HB5.out
            have HL6 : Hid (lenAt W6 X < lenAt wr X) := by
              show _ < _; rw [HT6.out.tl.lenAt, ← HT5.out.tl.lenAt]; exact HL5.out
            rw [hW6]
            clear hW6 k6 HT5 HB5 HL5
            have d2 : W6.cell? ⟨B, 2, none⟩ = some (.string f.name) := cellB HB6.out
            go_wp2_with fail
            refine (s_clone f.name _ HSf.out).mono ?_
            rintro e w7 ⟨rfl, k7⟩
            have hb7 : w7.heap[B]? = some (.cells #[.int .i64 f.kind, .int .i64 f.num, .string f.name] 42 (0, 0)) := by rw [k7.block B (lt_of_heap HB6.out) (by simp)]; exact HB6.out
            have e2 : w7.cell? ⟨B, 2, none⟩ = some (.string f.name) := cellB hb7
            have z2 : w7.frozen? ⟨B, 2, none⟩ = false := by simp [World.frozen?, hb7]
            obtain ⟨W8, hW8⟩ : ∃ W8, w7.setCell ⟨B, 2, none⟩ (.string f.name) = W8 := ⟨_, rfl⟩
            have k8 : Kept [B] W6 W8 := by rw [← hW8]; exact (k7.mono (by simp)).setCell (Or.inl (by simp)) _
            have HT8 : Hid (Ir F w X q W8 v5 (.slice (some ⟨gm, 0, none⟩) M.length cr) (popF L1) M) := HT6.out.box k8 HBF.out HBw.out.1 HBw.out.2
            have hb8 : W8.heap[B]? = some (.cells #[.int .i64 f.kind, .int .i64 f.num, .string f.name] 42 (0, 0)) := by rw [← hW8]; exact set_box hb7
            have HW8 : Hid (w7.setCell ⟨B, 2, none⟩ (.string f.name) = W8) := hW8
            have HL8 : Hid (lenAt W8 X < lenAt wr X) := by
              show _ < _; rw [HT8.out.tl.lenAt, ← HT6.out.tl.lenAt]; exact HL6.out
            clear hW8 k8 k7 hb7 d2 HT6 HB6 HL6
            go_upto_region 7 with fail
            rw [HW8.out]
            clear HW8 e2 z2
            have g0 : W8.cell? ⟨B, 0, none⟩ = some (.int .i64 f.kind) := cellB hb8
            have g1 : W8.cell? ⟨B, 1, none⟩ = some (.int .i64 f.num) := cellB hb8
            have g2 : W8.cell? ⟨B, 2, none⟩ = some (.string f.name) := cellB hb8
            have k9 := (Kept.refl [] W8).alloc (.cells #[.int .i64 f.kind, .int .i64 f.num, .string f.name] 42 (0, 0))
            have HT9 := HT8.out.kept k9
            obtain ⟨gn, cap, w9, hr9, h92, h93, h94, h95⟩ := append_one HT9.fr (Nat.le_trans HT9.tl.kept.size (Nat.le_refl _)) W8.heap.size f (Go.heap_alloc_new _ _) (by omega) 37 37 Tryd.underlying37
            have HAp : Hid (_) := hr9
            have HT10 : Hid (Ir F w X q w9 v5 (.slice (some ⟨gn, 0, none⟩) (M.length + 1) cap) (popF L1) (M ++ [f])) := HT9.more h93 h92
            have HL9 : Hid (lenAt w9 X < lenAt wr X) := by
              show _ < _; rw [HT10.out.tl.lenAt, ← HT8.out.tl.lenAt]; exact HL8.out
            clear hb8 k9 HT9 hr9 h92 h93 h94 h95 HT8 HL8
            go_wp2_with (at_builtin; refine wpList_append_run _ rfl _ _ 37 37 rfl _ _ rfl rfl _ _ HAp.out ?_)
            clear g0 g1 g2 HAp
            go_wp2_with fail
            go_roundw
            case rel => exact ⟨k, v5, popF L1, M ++ [f], some ⟨gn, 0, none⟩, cap, by simp, by have := HP5.out; omega, by have := HP5.out; omega, by have := HP5.out; simp; omega, by rw [List.length_append]; exact HT10.out, fun x hx => HM.out x (mem_popF hx), by rw [← HMo.out]; exact HN.out⟩
            case measure => exact HL9.out

end Go.Proofs.YtgfdcnjnkljahaaDoor
