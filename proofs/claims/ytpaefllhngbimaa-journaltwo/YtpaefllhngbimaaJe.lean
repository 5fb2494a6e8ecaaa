/-
  Two journals on one memory; texts that are handed in.
-/
import Derived.Test.YtpaefllhngbimaaDm
import Derived.SliceStrings
import Derived.OpenShut
import Derived.SizedLaws
namespace Go.Proofs.Ytpaefllhngbimaa
open Go.RowKit Go.ChangeShapes Go.WideShapes
set_option linter.unusedVariables false

theorem area_in {X : List Int} {f n a : Nat} (h : Fits X f n) (ha : a < 2) : f + 8 ≤ areaOf f n a ∧ areaOf f n a + ((n - 8) / 2 / 8) * 8 ≤ f + n := by
  obtain ⟨-, h1, -, h2⟩ := area_fits h ha (s := ⟨#[]⟩) (Nat.zero_le _)
  exact ⟨h1, h2⟩

/-- A journal whose words are as they were tells what it told. -/
theorem look_range {X Y : List Int} {f n : Nat} (h : Fits X f n) (hw : ∀ i, f ≤ i → i < f + n → wordAt Y i = wordAt X i) : lookOf Y f n = lookOf X f n := by
  have hlo := h.lo
  refine look_same hlo (hw f (by omega) (by omega)) fun a ha k h1 h2 => ?_
  obtain ⟨g1, g2⟩ := area_in h (head_lt ha)
  exact hw k (by omega) (by omega)

/-- A Write to another journal. -/
theorem quiet_beside {M : Pm} {f n g m : Nat} {u s : ByteArray} (hc : Clean M M.seen) (hr : Rng M.seen) (hx : Fits M.seen f n) (h2 : Quiet M g m u) (hf : M.fuse = none) (hs : s.size ≤ roomOf n) (hd : g + m ≤ f ∨ f + n ≤ g) : Quiet (M.run (replOps M.seen f n s)) g m u := by
  obtain ⟨q, -⟩ := quiet_repl hc hr hx hf hs
  refine ⟨q.clean, q.rng, ?_, ?_⟩
  · rw [run_seen_repl]; exact h2.fits.of_len (Z_length _ _ _ _)
  · rw [run_seen_repl, look_range h2.fits fun i h3 h4 => Z_beside hx hs i (by omega)]
    exact h2.look

/-- A block beside it is stored to. -/
theorem Hj.putAt {S : List (Nat × Obj)} {w0 w : World} {b k t i : Nat} {cs : Array Value} {v' : Value} {M : Pm} (h : Hj ((k, .cells cs t (0, 0)) :: S) w0 w b M) (hk : w0.heap.size ≤ k) (hS2 : ∀ x ∈ S, x.1 ≠ k) :
    Hj ((k, .cells (cs.setIfInBounds i v') t (0, 0)) :: S) w0 (w.setCell ⟨k, i, none⟩ v') b M := by
  obtain ⟨hK, p, hb, hm, hf, hS⟩ := h
  obtain ⟨h1, h2⟩ := hS (k, .cells cs t (0, 0)) (by simp)
  have hoth : ∀ q, q ≠ k → (w.setCell ⟨k, i, none⟩ v').heap[q]? = w.heap[q]? := fun q hq => Below.heap_setCell _ _ _ _ (by simpa using hq)
  refine ⟨hK.setCell (Or.inr hk) _, p, hb, hm.same fun q hq => hoth q (fun e => h2 (by rw [← e]; exact hq)), hf, fun x hx => ?_⟩
  rcases List.mem_cons.1 hx with rfl | hx
  · refine ⟨?_, h2⟩
    dsimp only at h1 ⊢
    simp [World.setCell, Array.getElem?_modify, h1]
  · obtain ⟨g1, g2⟩ := hS x (by simp [hx])
    exact ⟨by rw [hoth x.1 (hS2 x hx)]; exact g1, g2⟩

/-- The texts of a slice, each of a size that there is. -/
def IsStrs (w : World) (a : Option Addr) (len : Nat) (ss : Nat → ByteArray) : Prop :=
  len ≤ 9223372036854775807 ∧ ∀ i, i < len → (ss i).size ≤ 140737488351232 ∧ ∃ bb off, a = some ⟨bb, off, none⟩ ∧ w.cell? ⟨bb, off + i, none⟩ = some (.string (ss i))

theorem mem_weightsAll {H : Type} {P : Program} {e : TypeId} {d : DataW H} {n : Nat} (hn : n ∈ d.weights P e) : ∀ {l : List (DataW H)}, d ∈ l → n ∈ DataW.weightsAll P e l
  | [], h => by cases h
  | x :: l, h => by
    rw [DataW.weightsAll, List.mem_append]
    rcases List.mem_cons.1 h with rfl | h
    · exact Or.inl hn
    · exact Or.inr (mem_weightsAll hn h)

theorem strs_at {H : Type} {enc : TypeId × Value → H} {w : World} {base : Nat} {spare : Nat → Bool} {held : Bool} {fuel : Nat} {a : Option Addr} {len cap : Nat} {x : DataW H × List MemPlace}
    (h : DataW.trod enc Try.prog w base spare held fuel 48 [.slice a len cap] = some x) (hw : ∀ n ∈ x.1.weights Try.prog 48, n ≤ reachBytes) : ∃ ss, IsStrs w a len ss := by
  rcases open_strings Try.underlying48 Try.underlying9 (by kernel_rfl) h with ⟨hcs, _⟩ | ⟨y, l, c, ss, hcs, _, hl, hm, hz, hx, hcell, hwz⟩
  · simp at hcs
    obtain ⟨rfl, rfl, rfl⟩ := hcs
    exact ⟨fun _ => ByteArray.empty, by omega, fun i hi => by omega⟩
  · simp at hcs
    obtain ⟨rfl, rfl, rfl⟩ := hcs
    have hlen : len ≤ ss.length := by rw [hz]; split <;> omega
    refine ⟨fun i => ss.getD i ByteArray.empty, by unfold maxLen at hm; omega, fun i hi => ⟨?_, ?_⟩⟩
    · have hi2 : i < ss.length := by omega
      have hmem : (.lit (.string (ss.getD i ByteArray.empty).data.toList) : DataW H) ∈ strs (ss.take len) := by
        unfold strs
        rw [List.mem_map]
        refine ⟨ss.getD i ByteArray.empty, ?_, rfl⟩
        rw [List.getD_eq_getElem?_getD, List.getElem?_eq_getElem hi2]
        exact List.mem_take_iff_getElem.2 ⟨i, by omega, rfl⟩
      have hin : (ss.getD i ByteArray.empty).data.toList.length ∈ x.1.weights Try.prog 48 := by
        rw [hx]
        unfold DataW.weights
        rw [Try.underlying48]
        refine List.mem_cons_of_mem _ (List.mem_append_left _ (mem_weightsAll ?_ hmem))
        unfold DataW.weights
        simp
      have := hw _ hin
      unfold reachBytes at this
      have e : (ss.getD i ByteArray.empty).size = (ss.getD i ByteArray.empty).data.toList.length := rfl
      rw [e]
      exact this
    · obtain ⟨b, off, spot⟩ := y
      have hspot : spot = none := by
        have := World.cell?_spot (hcell 0 (by omega))
        simpa [Addr.add] using this
      subst hspot
      exact ⟨b, off, rfl, by rw [← Go.WideShapes.add_plain]; exact hcell i (by omega)⟩

end Go.Proofs.Ytpaefllhngbimaa
