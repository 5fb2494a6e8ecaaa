/-
  The whole state, one thing turned: how it lies.
-/
import Derived.Test.YtgfdcnjnkljahaaDoorWf
import Derived.Test.YtgfdcnjnkljahaaDoorBits
namespace Go.Proofs.YtgfdcnjnkljahaaDoor
open Go.RowKit Go.Lib Go.Maps
set_option linter.unusedVariables false
set_option linter.unusedSimpArgs false

theorem i64_and1 (n : Int) : bits .and .i64 n 1 = n % 2 := by
  have h1 : (BitVec.ofInt 64 1).toNat = 2 ^ 1 - 1 := by decide
  have key : (BitVec.ofInt 64 n &&& BitVec.ofInt 64 1).toNat = (n % ((2 ^ 64 : Nat) : Int)).toNat % 2 ^ 1 := by
    rw [BitVec.toNat_and, BitVec.toNat_ofInt, h1, Nat.and_two_pow_sub_one_eq_mod]
  show IntKind.i64.wrap ((BitVec.ofInt 64 n &&& BitVec.ofInt 64 1).toNat : Nat) = n % 2
  rw [key, IntKind.wrap_i64]
  omega

theorem wo_sv {w0 w : World} {N : Nat} {M : List Int} {D : List Ds} {E1 E2 : List En} {n0 n1 n2 n3 n4 : Int} {d0 d1 d2 d3 d4 : Bool} {s0 s1 s2 s3 s4 : ByteArray}
    (h : Wo w0 w N (icl M) (dcl D) (ecl E1) (ecl E2) (ncl [(⟨n0, d0, E1, s0⟩, some ⟨N + 1 + 1, 0, none⟩, E1.length), (⟨n1, d1, E2, s1⟩, some ⟨N + 1 + 1 + 1, 0, none⟩, E2.length), (⟨n2, d2, [], s2⟩, none, 0), (⟨n3, d3, [], s3⟩, none, 0), (⟨n4, d4, [], s4⟩, none, 0)]))
    (hf : Few ⟨[⟨n0, d0, E1, s0⟩, ⟨n1, d1, E2, s1⟩, ⟨n2, d2, [], s2⟩, ⟨n3, d3, [], s3⟩, ⟨n4, d4, [], s4⟩], D, M⟩) :
    Sv w ⟨some ⟨N + 1 + 1 + 1 + 1, 0, none⟩, 5, some ⟨N + 1, 0, none⟩, D.length, some ⟨N, 0, none⟩, M.length⟩ ⟨[⟨n0, d0, E1, s0⟩, ⟨n1, d1, E2, s1⟩, ⟨n2, d2, [], s2⟩, ⟨n3, d3, [], s3⟩, ⟨n4, d4, [], s4⟩], D, M⟩ := by
  refine sv_mk (ino_of h.hi (fun x hx => ?_)) (des_of h.ho) (int_of h.hm) hf (Nat.le_refl _) (Nat.le_refl _) (Nat.le_refl _)
  simp only [List.mem_cons, List.not_mem_nil, or_false] at hx
  rcases hx with rfl | rfl | rfl | rfl | rfl
  · exact ⟨ent_of h.ha, Nat.le_refl _⟩
  · exact ⟨ent_of h.hb, Nat.le_refl _⟩
  · exact ⟨ent_nil _ _, Nat.le_refl _⟩
  · exact ⟨ent_nil _ _, Nat.le_refl _⟩
  · exact ⟨ent_nil _ _, Nat.le_refl _⟩

end Go.Proofs.YtgfdcnjnkljahaaDoor
