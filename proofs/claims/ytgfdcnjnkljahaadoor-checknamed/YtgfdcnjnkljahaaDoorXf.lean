/-
  A heap of findings: Pop; all of them in their row, each once.
-/
import Derived.Test.YtgfdcnjnkljahaaDoorXe
import Derived.Deep.QuietTactic
namespace Go.Proofs.YtgfdcnjnkljahaaDoor
open Go.RowKit Go.Lib
set_option linter.unusedVariables false

/-- The least goes. -/
def popF (L : List Fi) : List Fi := (downF (L.length - 1 + 1) (swapL L 0 (L.length - 1)) 0 (L.length - 1)).take (L.length - 1)

set_option maxRecDepth 100000 in
set_option maxHeartbeats 4000000 in
theorem h_pop {F : List Nat} {w0 w : World} {X : Nat} {q : Lq} {v : Value} {L : List Fi} (h : Tl F w0 X q w v L) (n : Nat) (hn : L.length = n + 1) (hl : L.length ≤ 4000000000000) :
    Calls Tryd.prog 36 #[.iface 66 (.pointer (some ⟨X, 7, none⟩))] w fun e w' => (∃ u, e = .returned u) ∧ ∃ v', v'.ownBlock = v.ownBlock ∧ Tl F w0 X q w' v' (popF L) := by
  obtain ⟨a, c, rfl⟩ := h.val
  have H0 : Hid (Tl F w0 X q w (.slice a L.length c) L) := h
  have HN : Hid (L.length = n + 1) := hn
  have ml := m_len h.c7
  have ms := m_swap h.c7
  have e1 : (L.length : Int) - 1 = (n : Int) := by omega
  have hp : popF L = (downF (n + 1) (swapL L 0 n) 0 n).take n := by unfold popF; rw [hn]; rfl
  rw [hp]
  clear h hn hp
  go_enter Tryd.func36, Tryd.ntmps36
  go_wp2_with fail
  refine (t_len _ _ _ _).mono ?_
  rintro e w6 ⟨rfl, hw6⟩
  have hw7 := hw6.symm
  subst hw7
  clear ml
  go_wp2_with fail
  refine (t_swapX H0.out rfl 0 n _ _ rfl rfl (by have := HN.out; omega) (by have := HN.out; omega)).mono ?_
  rintro e w5 ⟨rfl, h5⟩
  have HT5 : Hid (_) := h5
  clear h5 ms
  go_wp2_with fail
  refine (h_down HT5.out n (by rw [swapL_length]; have := HN.out; omega) (by rw [swapL_length]; exact hl)).mono ?_
  rintro e w8 ⟨⟨b, rfl⟩, h8⟩
  have HT8 : Hid (_) := h8
  clear h8
  have mp := m_pop ⟨X, 7, none⟩ w8
  go_wp2_with fail
  refine (t_pop HT8.out n (by rw [downF_length, swapL_length]; exact HN.out) (by rw [downF_length, swapL_length]; exact hl)).mono ?_
  rintro e w9 ⟨rfl, v9, ho, h9⟩
  have HT9 : Hid (_) := h9
  have HO : Hid (_) := ho
  clear h9 ho mp
  go_wp2_with fail
  go_ret
  exact ⟨⟨_, rfl⟩, _, HO.out, HT9.out⟩

end Go.Proofs.YtgfdcnjnkljahaaDoor
