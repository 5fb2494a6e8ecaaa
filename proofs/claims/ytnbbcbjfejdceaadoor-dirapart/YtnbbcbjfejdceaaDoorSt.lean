/-
  A slice of texts that is handed in.
-/
import Derived.Test.YtnbbcbjfejdceaaDoorWk
import Derived.SliceStrings
import Derived.OpenShut
import Derived.SizedLaws
namespace Go.Proofs.YtnbbcbjfejdceaaDoor
open Go.RowKit Go.ChangeShapes Go.WideShapes Go.ChangeShapes
set_option linter.unusedVariables false

/-- The texts of a slice, each of a size that there is. -/
def IsStrs (w : World) (a : Option Addr) (len : Nat) (ss : Nat → ByteArray) : Prop :=
  len ≤ 9223372036854775807 ∧ ∀ i, i < len → (ss i).size ≤ 140737488351232 ∧ ∃ bb off, a = some ⟨bb, off, none⟩ ∧ w.cell? ⟨bb, off + i, none⟩ = some (.string (ss i))

theorem mem_weightsAll {H : Type} {P : Program} {e : TypeId} {d : DataW H} {n : Nat} (hn : n ∈ d.weights P e) : ∀ {l : List (DataW H)}, d ∈ l → n ∈ DataW.weightsAll P e l
  | [], h => by cases h
  | x :: l, h => by
    rw [DataW.weightsAll, List.mem_append]
    rcases List.mem_cons.1 h with rfl | h
    · exact Or.inl hn
    · exact Or.inr (mem_weightsAll hn h)

theorem strs_at {H : Type} {enc : TypeId × Value → H} {w : World} {base : Nat} {spare : Nat → Bool} {held : Bool} {fuel : Nat} {a : Option Addr} {len cap : Nat} {x : DataW H × List MemPlace}
    (h : DataW.trod enc Tryd.prog w base spare held fuel 47 [.slice a len cap] = some x) (hw : ∀ n ∈ x.1.weights Tryd.prog 47, n ≤ reachBytes) : ∃ ss, IsStrs w a len ss := by
  rcases open_strings Tryd.underlying47 Tryd.underlying9 (by kernel_rfl) h with ⟨hcs, _⟩ | ⟨y, l, c, ss, hcs, _, hl, hm, hz, hx, hcell, hwz⟩
  · simp at hcs
    obtain ⟨rfl, rfl, rfl⟩ := hcs
    exact ⟨fun _ => ByteArray.empty, by omega, fun i hi => by omega⟩
  · simp at hcs
    obtain ⟨rfl, rfl, rfl⟩ := hcs
    have hlen : len ≤ ss.length := by rw [hz]; split <;> omega
    refine ⟨fun i => ss.getD i ByteArray.empty, by unfold maxLen at hm; omega, fun i hi => ⟨?_, ?_⟩⟩
    · have hi2 : i < ss.length := by omega
      have hmem : (.lit (.string (ss.getD i ByteArray.empty).data.toList) : DataW H) ∈ strs (ss.take len) := by
        unfold strs
        rw [List.mem_map]
        refine ⟨ss.getD i ByteArray.empty, ?_, rfl⟩
        rw [List.getD_eq_getElem?_getD, List.getElem?_eq_getElem hi2]
        exact List.mem_take_iff_getElem.2 ⟨i, by omega, rfl⟩
      have hin : (ss.getD i ByteArray.empty).data.toList.length ∈ x.1.weights Tryd.prog 47 := by
        rw [hx]
        unfold DataW.weights
        rw [Tryd.underlying47]
        refine List.mem_cons_of_mem _ (List.mem_append_left _ (mem_weightsAll ?_ hmem))
        unfold DataW.weights
        simp
      have := hw _ hin
      unfold reachBytes at this
      have e : (ss.getD i ByteArray.empty).size = (ss.getD i ByteArray.empty).data.toList.length := rfl
      rw [e]
      exact this
    · obtain ⟨b, off, spot⟩ := y
      have hspot : spot = none := by
        have := World.cell?_spot (hcell 0 (by omega))
        simpa [Addr.add] using this
      subst hspot
      exact ⟨b, off, rfl, by rw [← Go.WideShapes.add_plain]; exact hcell i (by omega)⟩

/-- What Find answers, whoever asks. -/
theorem find_det (E : List En) (s : ByteArray) : ∃ x z : Int, (z = 0 ∨ x = 0) ∧ ∀ {I : Trc → Prop} {S : List (Nat × Obj)} {w0 w : World} {b g f k L N : Nat}, Dd I S w0 w b g f k L N E → ∀ c : Nat, c < k → N < 700000 → (∀ n : Nat, n < 8 → Rd I c f n) →
    Calls Tryd.prog 14 #[.pointer (some ⟨g, 0, none⟩), .int .i64 (c : Int), .string s] w fun e w' => e = .returned (.tuple #[.int .i64 x, .int .i64 z]) ∧ Dd I S w0 w' b g f k L (N + 12) E := by
  by_cases hs : chk s = 0
  · obtain ⟨n, hn8, hn⟩ := bkt_nat s
    rcases here_or E s with ⟨x, hx⟩ | hno
    · exact ⟨x, 0, Or.inl rfl, fun h c hc hN hI => e_find_yes h c n s x hx hn hc (hI n hn8) (by omega)⟩
    · exact ⟨0, 903, Or.inr rfl, fun h c hc hN hI => e_find_no h c n s hs hno hn hc (hI n hn8) (by omega)⟩
  · exact ⟨0, 900, Or.inr rfl, fun h c hc hN hI => (e_find_bad h (c : Int) s (by omega)).mono fun _ _ ⟨he, hd⟩ => ⟨he, hd.mono (by omega)⟩⟩

end Go.Proofs.YtnbbcbjfejdceaaDoor
