/-
  awake: what every program answers that is one. It answers true; nothing that was there has turned.
-/
import Derived.Test.YtghcommbflfbnaaUser
namespace Go.Proofs.Ytghcommbflfbnaa
open Go.RowKit

theorem awake_w3 : wordAt ((((((fresh 16).store 3 7).flush 0).store 4 8).fence).crash 0).seen 3 = 7 := by kernel_rfl
theorem awake_w4 : wordAt ((((((fresh 16).store 3 7).flush 0).store 4 8).fence).crash 0).seen 4 = 0 := by kernel_rfl
theorem awake_len : ((((((fresh 16).store 3 7).flush 0).store 4 8).fence).crash 0).seen.length = 16 := by kernel_rfl

set_option maxHeartbeats 2000000 in
theorem awake_any (w : World) : Calls Try.prog 12 #[] w fun e w' => e = .returned (.bool true) ∧ Kept [] w w' := by
  go_enter Try.func12, Try.ntmps12
  go_wp2_with fail
  refine (u_new w 16 (by omega) (by omega) (by omega)).mono ?_
  rintro e w1 ⟨b, rfl, hm1⟩
  go_wp2_with fail
  refine (u_store hm1 3 7 (by decide) (by decide) (by decide) (by decide) (by decide) (by decide)).mono ?_
  rintro e w2 ⟨rfl, hm2⟩
  clear hm1
  go_wp2_with fail
  refine (u_flush hm2 0 (by decide) (by decide) (by decide) (by decide)).mono ?_
  rintro e w3 ⟨rfl, hm3⟩
  clear hm2
  go_wp2_with fail
  refine (u_store hm3 4 8 (by decide) (by decide) (by decide) (by decide) (by decide) (by decide)).mono ?_
  rintro e w4 ⟨rfl, hm4⟩
  clear hm3
  go_wp2_with fail
  refine (u_fence hm4 (by decide) (by decide)).mono ?_
  rintro e w5 ⟨rfl, hm5⟩
  clear hm4
  go_wp2_with fail
  refine (u_crash hm5 0 (by decide)).mono ?_
  rintro e w6 ⟨rfl, hm6⟩
  clear hm5
  have hm7 : Has w w6 b ((((((fresh 16).store 3 7).flush 0).store 4 8).fence).crash 0) := hm6
  clear hm6
  go_wp2_with fail
  refine (u_load hm7 3 (by decide) (by rw [awake_len]; decide)).mono ?_
  rintro e w' ⟨rfl, rfl⟩
  rw [show (3 : Int).toNat = 3 from rfl, awake_w3]
  go_wp2_with fail
  refine (u_load hm7 4 (by decide) (by rw [awake_len]; decide)).mono ?_
  rintro e w' ⟨rfl, rfl⟩
  rw [show (4 : Int).toNat = 4 from rfl, awake_w4]
  go_wp2_with fail
  refine (u_load_no hm7 16 (by rw [awake_len]; decide)).mono ?_
  rintro e w' ⟨rfl, rfl⟩
  go_wp2_with fail
  refine (u_new_no w6 9 (by decide)).mono ?_
  rintro e w' ⟨rfl, rfl⟩
  have hK := hm7.1
  go_wp2_with (first
    | (go_at_call 11; refine (u_num _ _).mono ?_; rintro e w' ⟨rfl, rfl⟩)
    | (go_at_call 18; refine (u_words hm7).mono ?_; rintro e w' ⟨rfl, rfl⟩; rw [awake_len]))
  go_ret
  exact ⟨rfl, hK⟩

end Go.Proofs.Ytghcommbflfbnaa
