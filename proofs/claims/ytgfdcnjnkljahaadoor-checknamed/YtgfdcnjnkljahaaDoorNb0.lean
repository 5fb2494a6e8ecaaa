/-
  The program's Hash and Bucket of a name; rows of words of a call's own, as functions of their places.
-/
import Derived.Test.YtgfdcnjnkljahaaDoorNm
import Derived.BigQuiet
namespace Go.Proofs.YtgfdcnjnkljahaaDoor
open Go.RowKit
set_option linter.unusedVariables false


set_option maxRecDepth 100000 in
set_option maxHeartbeats 1000000 in
theorem n_hash (s : ByteArray) (w : World) :
    Calls Tryd.prog 58 #[.string s] w fun e w' => e = .returned (.int .i64 (hashL (rs s 0) 7)) ∧ Kept [] w w' := by
  go_enter Tryd.func58, Tryd.ntmps58
  go_wp2_with fail
  go_loopw [3] (fun h wr => ∃ (z : Int) (j : Nat), h = .int .u32 z ∧ Hid (It w wr s j) ∧ 0 ≤ z ∧ z < 4294967296 ∧ j ≤ s.size ∧ Hid (hashL (rs s j) z = hashL (rs s 0) 7)) (fun _ wr => s.size - wr.iterPos w.heap.size)
  case atStart => exact ⟨7, 0, rfl, It.begin w s, by omega, by omega, by omega, rfl⟩
  case round =>
    obtain ⟨z, j, rfl, HI, hz, hz2, hj, HH⟩ := hrel
    by_cases hlt : j < s.size
    · have hnx := next_at HI.out.here hlt
      have hw := one_width s j hlt
      have hst := step_le hlt
      have hsp := step_pos s j
      have hn := rs_next hlt
      have HN : Hid (hashL (rs s (j + max (one s j).2 1)) ((31 * z + (one s j).1) % 4294967296) = hashL (rs s 0) 7) := by
        have := HH.out
        rw [hn] at this
        exact this
      obtain ⟨W1, hW1⟩ : ∃ W1, iterTo wr w.heap.size s (j + max (one s j).2 1) = W1 := ⟨_, rfl⟩
      have hI1 : It w W1 s (j + max (one s j).2 1) := by rw [← hW1]; exact HI.out.next _
      rw [hW1] at hnx
      have HJ : Hid (It w W1 s (j + max (one s j).2 1) ∧ wr.iterPos w.heap.size = j) := ⟨hI1, HI.out.pos⟩
      clear hI1 hW1 HI HH hn
      obtain ⟨hw1, hw2, hw3, hw4, hw5⟩ := hw
      clear hw5 hw2
      generalize (one s j).1 = r at *
      generalize max (one s j).2 1 = m at *
      go_wp2_with fail
      go_roundw
      case rel => exact ⟨(31 * z + r) % 4294967296, j + m, by go_num, HJ.out.1, by omega, by omega, hst, HN.out⟩
      case measure =>
        have m1 := HJ.out.1.pos
        have m2 := HJ.out.2
        simp only [m1, m2]
        omega
    · have hnx := next_none HI.out.here hlt
      have HE : Hid (z = hashL (rs s 0) 7) := by
        have := HH.out
        rw [rs_end hlt] at this
        exact this
      clear HH
      go_wp2_with fail
      go_ret
      exact ⟨ret_int HE.out, HI.out.kept⟩

theorem n_bucket (s : ByteArray) (w : World) :
    Calls Tryd.prog 44 #[.string s] w fun e w' => e = .returned (.int .i64 (hashL (rs s 0) 7 % 8)) ∧ Kept [] w w' := by
  have hr := hashL_range (rs s 0) 7 (by omega)
  have HC : Hid (_) := n_hash s w
  obtain ⟨z, hz⟩ : ∃ z, hashL (rs s 0) 7 = z := ⟨_, rfl⟩
  rw [hz] at hr HC ⊢
  obtain ⟨h1, h2⟩ := hr
  clear hz
  go_enter Tryd.func44, Tryd.ntmps44
  go_wp2_with fail
  refine Calls.mono HC.out ?_
  rintro e w1 ⟨rfl, hk⟩
  have HK : Hid (_) := hk
  clear hk
  go_wp2_with fail
  go_ret
  exact ⟨rfl, HK.out⟩

end Go.Proofs.YtgfdcnjnkljahaaDoor
