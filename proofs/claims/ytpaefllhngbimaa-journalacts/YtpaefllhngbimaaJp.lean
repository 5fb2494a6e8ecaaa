/-
  The words of a text, one by one (package journal's packed); a memory's state within a loop over them.
-/
import Derived.Test.YtpaefllhngbimaaJm
import Derived.RangeFuncNested
import Derived.RangeFuncBound
import Derived.RangeFuncCalls
import Derived.RangeFuncLeaves
import Derived.RangeFuncWrites
import Derived.RangeFuncBox
import Derived.Shelf.Abstract
import Derived.Shelf.RegionOpen
import Derived.WalkKit
import Derived.OwnWalkIn
import Derived.TacticsInMore
import Derived.LoopNIn
import Derived.LoopIn
namespace Go.Proofs.Ytpaefllhngbimaa
open Go.RowKit Go.Shelf
attribute [local go_sem] Oper.semAt_some
set_option linter.unusedVariables false
set_option maxRecDepth 10000

def wordsOf (s : ByteArray) : List Int := (List.range (nWords s)).map (wordOf s)

theorem byteOf_extract (s : ByteArray) (a c : Nat) (hc : c ≤ s.size) (i : Nat) (hi : a + i < c) : byteOf (s.extract a c) i = byteOf s (a + i) := by
  unfold byteOf
  rw [dif_pos (by rw [ByteArray.size_extract]; omega), dif_pos (by omega)]
  rw [ByteArray.getElem_extract]

theorem byteOf_out (s : ByteArray) (i : Nat) (hi : s.size ≤ i) : byteOf s i = 0 := by unfold byteOf; rw [dif_neg (by omega)]

theorem word_extract (s : ByteArray) (k : Nat) (hk : 8 * k < s.size) : word8 (byteOf (s.extract (8 * k) (min (8 * k + 8) s.size))) = wordOf s k := by
  have key : ∀ j, j < 8 → byteOf (s.extract (8 * k) (min (8 * k + 8) s.size)) j = byteOf s (8 * k + j) := by
    intro j hj
    by_cases h : 8 * k + j < s.size
    · exact byteOf_extract s _ _ (by omega) j (by omega)
    · rw [byteOf_out s _ (by omega), byteOf_out _ _ (by rw [ByteArray.size_extract]; omega)]
  unfold wordOf word8
  rw [key 0 (by omega), key 1 (by omega), key 2 (by omega), key 3 (by omega), key 4 (by omega), key 5 (by omega), key 6 (by omega), key 7 (by omega)]

theorem extract_small (s : ByteArray) (k : Nat) : (s.extract (8 * k) (min (8 * k + 8) s.size)).size ≤ 8 := by rw [ByteArray.size_extract]; omega

theorem j_packed (s : ByteArray) (w : World) :
    Calls Try.prog 60 #[.string s] w fun e w' => e = .returned (.func (.func 62) #[] #[.pointer (some ⟨w.heap.size, 0, none⟩)]) ∧ w' = w.alloc (.cells #[.string s] 9) := by
  go_enter Try.func60, Try.ntmps60
  go_wp2
  go_ret
  exact ⟨rfl, rfl⟩

set_option maxHeartbeats 2000000 in
theorem packed1 (n l Bs : Nat) (s : ByteArray) (hsz : s.size ≤ 65536) (J Jx : List Int → World → Prop)
    (hY : ∀ pre x W, J pre W → pre.length < nWords s → YieldAt Fence.wide (n - 1) Try.prog l #[.int .u64 x] W fun e W' =>
      (e = .returned (.bool true) ∧ J (pre ++ [x]) W' ∧ W'.heap[Bs]? = W.heap[Bs]?) ∨ (e = .returned (.bool false) ∧ Jx (pre ++ [x]) W'))
    (W : World) (hBs : W.heap[Bs]? = some (.cells #[.string s] 9 (0, 0))) (h0 : J [] W) :
    CallsIn Fence.wide n Try.prog 62 #[.func (.yield l) #[] #[], .pointer (some ⟨Bs, 0, none⟩)] W fun e W' => (∃ v, e = .returned v) ∧
      ((∃ ys, ys = wordsOf s ∧ J ys W') ∨ (∃ pre, True ∧ Jx pre W')) := by
  refine callsIn_of_wp Try.func62 rfl trivial ?_ rfl
  simp only [Try.ntmps62, List.size_toArray, List.length_cons, List.length_nil, Nat.reduceAdd, Nat.reduceSub, Array.replicate_succ, Array.replicate_zero, List.push_toArray, List.append_toArray, List.nil_append, List.cons_append]
  gi_wp2
  gi_loopw [3] (fun i wr => ∃ k : Nat, k ≤ nWords s ∧ i = .int .i64 ((8 * k : Nat) : Int) ∧ J ((List.range k).map (wordOf s)) wr ∧ wr.heap[Bs]? = some (.cells #[.string s] 9 (0, 0)))
    (fun i _ => (s.size + 8 - intOf i).toNat)
  case atStart => exact ⟨0, Nat.zero_le _, rfl, h0, hBs⟩
  case round =>
    obtain ⟨k, hk, rfl, hJs, hc⟩ := hrel
    have hcell : wr.cell? ⟨Bs, 0, none⟩ = some (.string s) := by simp [World.cell?, hc]
    by_cases hlt : 8 * k < s.size
    · have i1 : ((8 * k : Nat) : Int) < (s.size : Int) := by omega
      have hsucc : (List.range (k + 1)).map (wordOf s) = (List.range k).map (wordOf s) ++ [wordOf s k] := by rw [List.range_succ, List.map_append]; rfl
      obtain ⟨fn, tmps, assign, body, hy, hR⟩ := hY _ (wordOf s k) wr hJs (by rw [List.length_map, List.length_range]; unfold nWords; omega)
      have HR : Hid (_) := hR
      have HS : Hid (_ = _) := hsucc
      clear hR hsucc hY
      have hpk := fun w => j_pack (s.extract (8 * k) (min (8 * k + 8) s.size)) (extract_small s k) w
      rw [word_extract s k hlt] at hpk
      by_cases hm : 8 * k + 8 ≤ s.size
      · have i2 : 8 * (k : Int) + 8 ≤ (s.size : Int) := by omega
        rw [show min (8 * k + 8) s.size = 8 * k + 8 from by omega] at hpk
        gi_wp2
        refine ⟨trivial, fun h => absurd h (by simp [Fence.wide]), ?_⟩
        refine ((callsIn_wide (n := n - 1)).2 (hpk _)).mono ?_
        rintro e w' ⟨rfl, hw2⟩
        have hw3 := hw2.symm
        subst hw3
        clear hw2
        gi_wp2
        refine ⟨fun h => absurd h (by simp [Fence.wide]), RoundIn.mono HR.out ?_⟩
        rintro e W3 (⟨rfl, hJ3, hk3⟩ | ⟨rfl, hJx3⟩)
        · rw [← HS.out] at hJ3
          gi_wp2
          go_roundw
          case rel => exact ⟨k + 1, by unfold nWords; omega, by go_num, hJ3, by rw [hk3]; exact hc⟩
          case measure => simp [intOf]; omega
        · gi_wp2
          refine bodyPost_ret (results_none rfl _ _ _) rfl ?_
          first | exact ⟨⟨_, rfl⟩, .inr ⟨_, hJx3⟩⟩ | exact ⟨⟨_, rfl⟩, .inr ⟨_, trivial, hJx3⟩⟩
      · have i2 : ¬ 8 * (k : Int) + 8 ≤ (s.size : Int) := by omega
        rw [show min (8 * k + 8) s.size = s.size from by omega] at hpk
        gi_wp2
        refine ⟨trivial, fun h => absurd h (by simp [Fence.wide]), ?_⟩
        refine ((callsIn_wide (n := n - 1)).2 (hpk _)).mono ?_
        rintro e w' ⟨rfl, hw2⟩
        have hw3 := hw2.symm
        subst hw3
        clear hw2
        gi_wp2
        refine ⟨fun h => absurd h (by simp [Fence.wide]), RoundIn.mono HR.out ?_⟩
        rintro e W3 (⟨rfl, hJ3, hk3⟩ | ⟨rfl, hJx3⟩)
        · rw [← HS.out] at hJ3
          gi_wp2
          go_roundw
          case rel => exact ⟨k + 1, by unfold nWords; omega, by go_num, hJ3, by rw [hk3]; exact hc⟩
          case measure => simp [intOf]; omega
        · gi_wp2
          refine bodyPost_ret (results_none rfl _ _ _) rfl ?_
          first | exact ⟨⟨_, rfl⟩, .inr ⟨_, hJx3⟩⟩ | exact ⟨⟨_, rfl⟩, .inr ⟨_, trivial, hJx3⟩⟩
    · have i1 : ¬ ((8 * k : Nat) : Int) < (s.size : Int) := by omega
      obtain rfl : k = nWords s := by unfold nWords at *; omega
      gi_wp2
      go_end0
      first | exact ⟨⟨_, rfl⟩, .inl hJs⟩ | exact ⟨⟨_, rfl⟩, .inl ⟨_, rfl, hJs⟩⟩

/-- packed(s) hands back a value that gives the words of s, one by one; a round must leave the box of s as it is. -/
theorem packed_stops (n Bs : Nat) (s : ByteArray) (hsz : s.size ≤ 65536) (w : World) (hBs : w.heap[Bs]? = some (.cells #[.string s] 9 (0, 0))) :
    SeqStopsK Fence.wide n Try.prog 62 #[.pointer (some ⟨Bs, 0, none⟩)] (fun x : Int => #[Value.int .u64 x]) (fun W W' => W'.heap[Bs]? = W.heap[Bs]?) (fun ys => ys = wordsOf s) (fun _ => True) (nWords s) w := fun l J Jx W hW _ _ hY h0 => by
  have hc : W.heap[Bs]? = some (.cells #[.string s] 9 (0, 0)) := (hW.block Bs (lt_of_heap hBs)).trans hBs
  exact packed1 n l Bs s hsz J Jx hY W hc h0

/-! ### The state within a loop over them -/

/-- As Hj; the map of what is on its way lies below B, and so do the blocks of S. -/
def HjB (B : Nat) (S : List (Nat × Obj)) (w0 w : World) (b : Nat) (M : Pm) : Prop := Kept [] w0 w ∧ ∃ p, p.b = b ∧ MemIs w p M ∧ (∀ k ∈ p.blocks, w0.heap.size ≤ k) ∧ (∀ x ∈ S, w.heap[x.1]? = some x.2 ∧ x.1 ∉ p.blocks ∧ x.1 < B) ∧ ∀ r, p.mv = .map (some r) → r < B

theorem Hj.toB {S : List (Nat × Obj)} {w0 w : World} {b : Nat} {M : Pm} (h : Hj S w0 w b M) : HjB w.heap.size S w0 w b M := by
  obtain ⟨hK, p, hb, hm, hf, hS⟩ := h
  refine ⟨hK, p, hb, hm, hf, fun x hx => ⟨(hS x hx).1, (hS x hx).2, lt_of_heap (hS x hx).1⟩, fun r hr => ?_⟩
  exact hm.blocks_lt r (by simp [Pl.blocks, vb, hr])

theorem HjB.hj {B : Nat} {S : List (Nat × Obj)} {w0 w : World} {b : Nat} {M : Pm} (h : HjB B S w0 w b M) : Hj S w0 w b M := by
  obtain ⟨hK, p, hb, hm, hf, hS, -⟩ := h
  exact ⟨hK, p, hb, hm, hf, fun x hx => ⟨(hS x hx).1, (hS x hx).2.1⟩⟩

theorem HjB.at {B : Nat} {S : List (Nat × Obj)} {w0 w : World} {b : Nat} {M : Pm} (h : HjB B S w0 w b M) {x : Nat × Obj} (hx : x ∈ S) : w.heap[x.1]? = some x.2 := h.hj.at hx

/-- A memory's block that lies from B on is cells. -/
theorem own_cells {B : Nat} {w : World} {p : Pl} {M : Pm} (hm : MemIs w p M) (hv : ∀ r, p.mv = .map (some r) → r < B) {k : Nat} (hk : k ∈ p.blocks) (hB : B ≤ k) : ∃ o : Obj, w.heap[k]? = some o ∧ o.isCells = true := by
  simp only [Pl.blocks, List.mem_cons, List.mem_append] at hk
  rcases hk with rfl | rfl | rfl | hk | hk
  · exact ⟨_, hm.main, rfl⟩
  · exact ⟨_, hm.seen, rfl⟩
  · exact ⟨_, hm.lasts, rfl⟩
  · rcases hm.way with ⟨e, -⟩ | ⟨r, es, c, e, -⟩
    · rw [e] at hk; simp [vb] at hk
    · have := hv r e
      rw [e] at hk; simp [vb] at hk; omega
  · have hf := hm.fuse
    match hM : M.fuse, hf with
    | none, hf => simp only [FuseIs] at hf; rw [hf] at hk; simp [vb] at hk
    | some (.inl k), hf => obtain ⟨e, _⟩ := hf; rw [e] at hk; simp [vb] at hk
    | some (.inr xs), hf =>
      obtain ⟨f, zf, e, hf, _⟩ := hf
      rw [e] at hk
      have hk : k = f := by simpa [vb] using hk
      rw [hk]
      exact ⟨_, hf, rfl⟩

theorem HjB.own {B : Nat} {β : Type} {S : β → List (Nat × Obj)} {w0 : World} {b : Nat} {M : β → Pm} (h0 : w0.heap.size ≤ B) : OwnFrom B (fun s W => HjB B (S s) w0 W b (M s)) := by
  intro s W W' row h hg hr
  obtain ⟨hK, p, hb, hm, hf, hS, hv⟩ := h
  have hne : ∀ k, k < W.heap.size → k ∈ p.blocks → row ≠ some k := fun k hk hkp e => by
    obtain ⟨h1, o, h2, h3⟩ := hr k e
    obtain ⟨o2, h4, h5⟩ := own_cells hm hv hkp h1
    rw [h2] at h4; cases h4; rw [h3] at h5; cases h5
  refine ⟨⟨hg.os.trans hK.os, hg.tape.trans hK.tape, hg.output.trans hK.output, Nat.le_trans hK.size hg.size, fun k hk _ => ?_⟩, p, hb, hm.same fun k hk => hg.block k (hm.blocks_lt k hk) (fun e => hne k (hm.blocks_lt k hk) hk e.symm), hf, fun x hx => ?_, hv⟩
  · rw [hg.block k (Nat.lt_of_lt_of_le hk hK.size) (fun e => by have := (hr k e.symm).1; omega)]
    exact hK.block k hk (by simp)
  · obtain ⟨h1, h2, h3⟩ := hS x hx
    exact ⟨by rw [hg.block x.1 (lt_of_heap h1) (fun e => by have := (hr x.1 e.symm).1; omega)]; exact h1, h2, h3⟩

theorem b_store {B : Nat} {S : List (Nat × Obj)} {w0 w : World} {b : Nat} {M : Pm} (h : HjB B S w0 w b M) (a v : Int) (h0 : 0 ≤ a) (h1 : a < M.seen.length) (hs0 : -1000000000 < M.steps) (hs : M.steps < 1000000000) (ht0 : -1000000000 < M.stores) (ht : M.stores < 1000000000) :
    Calls Try.prog 11 #[.pointer (some ⟨b, 0, none⟩), .int .i64 a, .int .u64 v] w fun e w' => e = .returned (.int .i64 0) ∧ HjB B S w0 w' b (M.store a.toNat v) ∧ KeepsFrom B w w' := by
  obtain ⟨hK, p, rfl, hm, hf, hS, hv⟩ := h
  obtain ⟨k, rfl⟩ := Int.eq_ofNat_of_zero_le h0
  refine (store_mv hm k v (by omega) hs0 hs ht0 ht).mono ?_
  rintro e w1 ⟨rfl, p1, hto, hm1, hmv⟩
  refine ⟨rfl, ⟨hK.trans hto.kept fun k hk => Or.inr (hf k hk), p1, hto.b, hm1, fun k hk => ?_, fun x hx => ?_, fun r hr => ?_⟩, hto.kept.size, fun k o hB ho hc => ?_⟩
  · rcases hto.fresh k hk with h1 | h1
    · exact hf k h1
    · exact Nat.le_trans hK.size h1
  · obtain ⟨h1, h2, h3⟩ := hS x hx
    refine ⟨by rw [hto.kept.block x.1 (lt_of_heap h1) h2]; exact h1, fun hmm => ?_, h3⟩
    have hlt := lt_of_heap h1
    rcases hto.fresh x.1 hmm with h4 | h4
    · exact h2 h4
    · omega
  · rcases hmv with e | e
    · exact hv r (by rw [← e]; exact hr)
    · rw [e] at hr; cases hr
  · by_cases hkp : k ∈ p.blocks
    · obtain ⟨o2, h4, h5⟩ := own_cells hm hv hkp hB
      rw [ho] at h4; cases h4; rw [hc] at h5; cases h5
    · rw [hto.kept.block k (lt_of_heap ho) hkp]; exact ho

/-- A box beside it is stored to. -/
theorem HjB.put {B : Nat} {S : List (Nat × Obj)} {w0 w : World} {b k t : Nat} {v v' : Value} {M : Pm} (h : HjB B ((k, .cells #[v] t (0, 0)) :: S) w0 w b M) (hk : w0.heap.size ≤ k) (hS2 : ∀ x ∈ S, x.1 ≠ k) :
    HjB B ((k, .cells #[v'] t (0, 0)) :: S) w0 (w.setCell ⟨k, 0, none⟩ v') b M := by
  obtain ⟨hK, p, hb, hm, hf, hS, hv⟩ := h
  obtain ⟨h1, h2, h3⟩ := hS (k, .cells #[v] t (0, 0)) (by simp)
  have hoth : ∀ i, i ≠ k → (w.setCell ⟨k, 0, none⟩ v').heap[i]? = w.heap[i]? := fun i hi => Below.heap_setCell _ _ _ _ (by simpa using hi)
  refine ⟨hK.setCell (Or.inr hk) _, p, hb, hm.same fun i hi => hoth i (fun e => h2 (by rw [← e]; exact hi)), hf, fun x hx => ?_, hv⟩
  rcases List.mem_cons.1 hx with rfl | hx
  · refine ⟨?_, h2, h3⟩
    dsimp only at h1 ⊢
    simp [World.setCell, Array.getElem?_modify, h1]
  · obtain ⟨g1, g2, g3⟩ := hS x (by simp [hx])
    exact ⟨by rw [hoth x.1 (hS2 x hx)]; exact g1, g2, g3⟩

theorem HjB.drew {B : Nat} {S : List (Nat × Obj)} {w0 w : World} {b : Nat} {M : Pm} (h : HjB B S w0 w b M) : HjB B S w0 w.drew b M := by
  obtain ⟨hK, p, hb, hm, hf, hS, hv⟩ := h
  exact ⟨hK.drew, p, hb, hm.kept0 (Kept.refl _ _).drew, hf, hS, hv⟩

end Go.Proofs.Ytpaefllhngbimaa
