/-
  One arena, made since w0: a contract a call.
-/
import Derived.Test.YtkaijfpenokmbaaTrace
namespace Go.Proofs.Ytkaijfpenokmbaa
open Go.RowKit

def Has (w0 w : World) (b : Nat) (A : Ar) : Prop := Kept [] w0 w ∧ ∃ p, p.b = b ∧ (∀ k ∈ p.blocks, w0.heap.size ≤ k) ∧ ArIs 61 w p A

theorem Has.still {w0 w w' : World} {b : Nat} {A : Ar} (h : Has w0 w b A) (hk : Kept [] w w') : Has w0 w' b A := by
  obtain ⟨hK, p, hb, hf, hm⟩ := h
  exact ⟨hK.trans hk (by simp), p, hb, hf, hm.kept0 hk⟩

theorem Has.to {w0 w w' : World} {p p' : Ap} {A : Ar} (hK : Kept [] w0 w) (hf : ∀ k ∈ p.blocks, w0.heap.size ≤ k) (ht : ATo [] w p w' p') (ha : ArIs 61 w' p' A) : Has w0 w' p.b A := by
  refine ⟨hK.trans ht.kept (fun x hx => Or.inr (hf x (by simpa using hx))), p', ht.b, fun k hk => ?_, ha⟩
  rcases ht.new k hk with h1 | h1
  · exact hf k h1
  · exact Nat.le_trans hK.size h1

theorem u_new (w : World) (n c : Int) (h0 : 1 ≤ n) (h1 : n ≤ 65536) (c0 : 1 ≤ c) (c1 : c ≤ 8) :
    Calls Try.prog 8 #[.int .i64 n, .int .i64 c] w fun e w' => ∃ b, e = .returned (.tuple #[.pointer (some ⟨b, 0, none⟩), .int .i64 0]) ∧ Has w w' b (fresh n.toNat c.toNat) := by
  obtain ⟨i, rfl⟩ := Int.eq_ofNat_of_zero_le (show 0 ≤ n by omega)
  obtain ⟨j, rfl⟩ := Int.eq_ofNat_of_zero_le (show 0 ≤ c by omega)
  refine (new_yes w i j (by omega) (by omega) (by omega) (by omega)).mono ?_
  rintro e w' ⟨p, rfl, hK, hf, hm⟩
  exact ⟨p.b, rfl, hK, p, rfl, hf, hm⟩

theorem u_load {w0 w : World} {b : Nat} {A : Ar} (h : Has w0 w b A) (c k : Int) (c0 : 0 ≤ c) (c1 : c < (A.traces.length : Int)) (k0 : 0 ≤ k) (k1 : k < (A.words.length : Int)) (hn : (A.traces.getD c.toNat []).length < 1000000) :
    Calls Try.prog 14 #[.pointer (some ⟨b, 0, none⟩), .int .i64 c, .int .i64 k] w fun e w' => e = .returned (.tuple #[.int .i64 (wordAt A.words k.toNat), .int .i64 0]) ∧ Has w0 w' b (A.touch c.toNat k.toNat none) := by
  obtain ⟨hK, p, rfl, hf, hm⟩ := h
  obtain ⟨i, rfl⟩ := Int.eq_ofNat_of_zero_le c0
  obtain ⟨j, rfl⟩ := Int.eq_ofNat_of_zero_le k0
  refine (load_yes hm i j (by omega) (by omega) hn).mono ?_
  rintro e w' ⟨rfl, p', hto, ha⟩
  exact ⟨rfl, Has.to hK hf hto ha⟩

theorem u_load_nocore {w0 w : World} {b : Nat} {A : Ar} (h : Has w0 w b A) (c k : Int) (hc : c < 0 ∨ (A.traces.length : Int) ≤ c) :
    Calls Try.prog 14 #[.pointer (some ⟨b, 0, none⟩), .int .i64 c, .int .i64 k] w fun e w' => e = .returned (.tuple #[.int .i64 0, .int .i64 202]) ∧ Has w0 w' b A := by
  obtain ⟨hK, p, rfl, hf, hm⟩ := h
  refine (load_nocore hm c k hc).mono ?_
  rintro e w' ⟨rfl, hk⟩
  exact ⟨rfl, Has.still ⟨hK, p, rfl, hf, hm⟩ hk⟩

theorem u_load_noplace {w0 w : World} {b : Nat} {A : Ar} (h : Has w0 w b A) (c k : Int) (c0 : 0 ≤ c) (c1 : c < (A.traces.length : Int)) (hk : k < 0 ∨ (A.words.length : Int) ≤ k) :
    Calls Try.prog 14 #[.pointer (some ⟨b, 0, none⟩), .int .i64 c, .int .i64 k] w fun e w' => e = .returned (.tuple #[.int .i64 0, .int .i64 201]) ∧ Has w0 w' b A := by
  obtain ⟨hK, p, rfl, hf, hm⟩ := h
  obtain ⟨i, rfl⟩ := Int.eq_ofNat_of_zero_le c0
  refine (load_noplace hm i k (by omega) hk).mono ?_
  rintro e w' ⟨rfl, hk⟩
  exact ⟨rfl, Has.still ⟨hK, p, rfl, hf, hm⟩ hk⟩

theorem u_store {w0 w : World} {b : Nat} {A : Ar} (h : Has w0 w b A) (c k : Int) (z : Int) (c0 : 0 ≤ c) (c1 : c < (A.traces.length : Int)) (k0 : 0 ≤ k) (k1 : k < (A.words.length : Int)) (hn : (A.traces.getD c.toNat []).length < 1000000) :
    Calls Try.prog 16 #[.pointer (some ⟨b, 0, none⟩), .int .i64 c, .int .i64 k, .int .i64 z] w fun e w' => e = .returned (.int .i64 0) ∧ Has w0 w' b (A.touch c.toNat k.toNat (some z)) := by
  obtain ⟨hK, p, rfl, hf, hm⟩ := h
  obtain ⟨i, rfl⟩ := Int.eq_ofNat_of_zero_le c0
  obtain ⟨j, rfl⟩ := Int.eq_ofNat_of_zero_le k0
  refine (store_yes hm i j z (by omega) (by omega) hn).mono ?_
  rintro e w' ⟨rfl, p', hto, ha⟩
  exact ⟨rfl, Has.to hK hf hto ha⟩

theorem u_store_nocore {w0 w : World} {b : Nat} {A : Ar} (h : Has w0 w b A) (c k : Int) (z : Int) (hc : c < 0 ∨ (A.traces.length : Int) ≤ c) :
    Calls Try.prog 16 #[.pointer (some ⟨b, 0, none⟩), .int .i64 c, .int .i64 k, .int .i64 z] w fun e w' => e = .returned (.int .i64 202) ∧ Has w0 w' b A := by
  obtain ⟨hK, p, rfl, hf, hm⟩ := h
  refine (store_nocore hm c k z hc).mono ?_
  rintro e w' ⟨rfl, hk⟩
  exact ⟨rfl, Has.still ⟨hK, p, rfl, hf, hm⟩ hk⟩

theorem u_store_noplace {w0 w : World} {b : Nat} {A : Ar} (h : Has w0 w b A) (c k : Int) (z : Int) (c0 : 0 ≤ c) (c1 : c < (A.traces.length : Int)) (hk : k < 0 ∨ (A.words.length : Int) ≤ k) :
    Calls Try.prog 16 #[.pointer (some ⟨b, 0, none⟩), .int .i64 c, .int .i64 k, .int .i64 z] w fun e w' => e = .returned (.int .i64 201) ∧ Has w0 w' b A := by
  obtain ⟨hK, p, rfl, hf, hm⟩ := h
  obtain ⟨i, rfl⟩ := Int.eq_ofNat_of_zero_le c0
  refine (store_noplace hm i k z (by omega) hk).mono ?_
  rintro e w' ⟨rfl, hk⟩
  exact ⟨rfl, Has.still ⟨hK, p, rfl, hf, hm⟩ hk⟩

theorem u_cas {w0 w : World} {b : Nat} {A : Ar} (h : Has w0 w b A) (c k : Int) (o : Int) (z : Int) (c0 : 0 ≤ c) (c1 : c < (A.traces.length : Int)) (k0 : 0 ≤ k) (k1 : k < (A.words.length : Int)) (hn : (A.traces.getD c.toNat []).length < 1000000) (hy : wordAt A.words k.toNat = o) :
    Calls Try.prog 17 #[.pointer (some ⟨b, 0, none⟩), .int .i64 c, .int .i64 k, .int .i64 o, .int .i64 z] w fun e w' => e = .returned (.tuple #[.bool true, .int .i64 0]) ∧ Has w0 w' b (A.touch c.toNat k.toNat (some z)) := by
  obtain ⟨hK, p, rfl, hf, hm⟩ := h
  obtain ⟨i, rfl⟩ := Int.eq_ofNat_of_zero_le c0
  obtain ⟨j, rfl⟩ := Int.eq_ofNat_of_zero_le k0
  refine (cas_yes hm i j o z (by omega) (by omega) hn hy).mono ?_
  rintro e w' ⟨rfl, p', hto, ha⟩
  exact ⟨rfl, Has.to hK hf hto ha⟩

theorem u_cas_not {w0 w : World} {b : Nat} {A : Ar} (h : Has w0 w b A) (c k : Int) (o : Int) (z : Int) (c0 : 0 ≤ c) (c1 : c < (A.traces.length : Int)) (k0 : 0 ≤ k) (k1 : k < (A.words.length : Int)) (hn : (A.traces.getD c.toNat []).length < 1000000) (hy : wordAt A.words k.toNat ≠ o) :
    Calls Try.prog 17 #[.pointer (some ⟨b, 0, none⟩), .int .i64 c, .int .i64 k, .int .i64 o, .int .i64 z] w fun e w' => e = .returned (.tuple #[.bool false, .int .i64 0]) ∧ Has w0 w' b (A.touch c.toNat k.toNat none) := by
  obtain ⟨hK, p, rfl, hf, hm⟩ := h
  obtain ⟨i, rfl⟩ := Int.eq_ofNat_of_zero_le c0
  obtain ⟨j, rfl⟩ := Int.eq_ofNat_of_zero_le k0
  refine (cas_no hm i j o z (by omega) (by omega) hn hy).mono ?_
  rintro e w' ⟨rfl, p', hto, ha⟩
  exact ⟨rfl, Has.to hK hf hto ha⟩

theorem u_cas_nocore {w0 w : World} {b : Nat} {A : Ar} (h : Has w0 w b A) (c k : Int) (o : Int) (z : Int) (hc : c < 0 ∨ (A.traces.length : Int) ≤ c) :
    Calls Try.prog 17 #[.pointer (some ⟨b, 0, none⟩), .int .i64 c, .int .i64 k, .int .i64 o, .int .i64 z] w fun e w' => e = .returned (.tuple #[.bool false, .int .i64 202]) ∧ Has w0 w' b A := by
  obtain ⟨hK, p, rfl, hf, hm⟩ := h
  refine (cas_nocore hm c k o z hc).mono ?_
  rintro e w' ⟨rfl, hk⟩
  exact ⟨rfl, Has.still ⟨hK, p, rfl, hf, hm⟩ hk⟩

theorem u_cas_noplace {w0 w : World} {b : Nat} {A : Ar} (h : Has w0 w b A) (c k : Int) (o : Int) (z : Int) (c0 : 0 ≤ c) (c1 : c < (A.traces.length : Int)) (hk : k < 0 ∨ (A.words.length : Int) ≤ k) :
    Calls Try.prog 17 #[.pointer (some ⟨b, 0, none⟩), .int .i64 c, .int .i64 k, .int .i64 o, .int .i64 z] w fun e w' => e = .returned (.tuple #[.bool false, .int .i64 201]) ∧ Has w0 w' b A := by
  obtain ⟨hK, p, rfl, hf, hm⟩ := h
  obtain ⟨i, rfl⟩ := Int.eq_ofNat_of_zero_le c0
  refine (cas_noplace hm i k o z (by omega) hk).mono ?_
  rintro e w' ⟨rfl, hk⟩
  exact ⟨rfl, Has.still ⟨hK, p, rfl, hf, hm⟩ hk⟩

theorem u_add {w0 w : World} {b : Nat} {A : Ar} (h : Has w0 w b A) (c k : Int) (z : Int) (c0 : 0 ≤ c) (c1 : c < (A.traces.length : Int)) (k0 : 0 ≤ k) (k1 : k < (A.words.length : Int)) (hn : (A.traces.getD c.toNat []).length < 1000000) :
    Calls Try.prog 18 #[.pointer (some ⟨b, 0, none⟩), .int .i64 c, .int .i64 k, .int .i64 z] w fun e w' => e = .returned (.tuple #[.int .i64 (wrap64 (wordAt A.words k.toNat + z)), .int .i64 0]) ∧ Has w0 w' b (A.touch c.toNat k.toNat (some (wrap64 (wordAt A.words k.toNat + z)))) := by
  obtain ⟨hK, p, rfl, hf, hm⟩ := h
  obtain ⟨i, rfl⟩ := Int.eq_ofNat_of_zero_le c0
  obtain ⟨j, rfl⟩ := Int.eq_ofNat_of_zero_le k0
  refine (add_yes hm i j z (by omega) (by omega) hn).mono ?_
  rintro e w' ⟨rfl, p', hto, ha⟩
  exact ⟨rfl, Has.to hK hf hto ha⟩

theorem u_add_nocore {w0 w : World} {b : Nat} {A : Ar} (h : Has w0 w b A) (c k : Int) (z : Int) (hc : c < 0 ∨ (A.traces.length : Int) ≤ c) :
    Calls Try.prog 18 #[.pointer (some ⟨b, 0, none⟩), .int .i64 c, .int .i64 k, .int .i64 z] w fun e w' => e = .returned (.tuple #[.int .i64 0, .int .i64 202]) ∧ Has w0 w' b A := by
  obtain ⟨hK, p, rfl, hf, hm⟩ := h
  refine (add_nocore hm c k z hc).mono ?_
  rintro e w' ⟨rfl, hk⟩
  exact ⟨rfl, Has.still ⟨hK, p, rfl, hf, hm⟩ hk⟩

theorem u_add_noplace {w0 w : World} {b : Nat} {A : Ar} (h : Has w0 w b A) (c k : Int) (z : Int) (c0 : 0 ≤ c) (c1 : c < (A.traces.length : Int)) (hk : k < 0 ∨ (A.words.length : Int) ≤ k) :
    Calls Try.prog 18 #[.pointer (some ⟨b, 0, none⟩), .int .i64 c, .int .i64 k, .int .i64 z] w fun e w' => e = .returned (.tuple #[.int .i64 0, .int .i64 201]) ∧ Has w0 w' b A := by
  obtain ⟨hK, p, rfl, hf, hm⟩ := h
  obtain ⟨i, rfl⟩ := Int.eq_ofNat_of_zero_le c0
  refine (add_noplace hm i k z (by omega) hk).mono ?_
  rintro e w' ⟨rfl, hk⟩
  exact ⟨rfl, Has.still ⟨hK, p, rfl, hf, hm⟩ hk⟩

theorem u_clear {w0 w : World} {b : Nat} {A : Ar} (h : Has w0 w b A) (c : Int) (c0 : 0 ≤ c) (c1 : c < (A.traces.length : Int)) :
    Calls Try.prog 19 #[.pointer (some ⟨b, 0, none⟩), .int .i64 c] w fun e w' => e = .returned (.int .i64 0) ∧ Has w0 w' b (A.clear c.toNat) := by
  obtain ⟨hK, p, rfl, hf, hm⟩ := h
  obtain ⟨i, rfl⟩ := Int.eq_ofNat_of_zero_le c0
  refine (clear_yes hm i (by omega)).mono ?_
  rintro e w' ⟨rfl, p', hto, ha⟩
  exact ⟨rfl, Has.to hK hf hto ha⟩

theorem u_clear_no {w0 w : World} {b : Nat} {A : Ar} (h : Has w0 w b A) (c : Int) (hc : c < 0 ∨ (A.traces.length : Int) ≤ c) :
    Calls Try.prog 19 #[.pointer (some ⟨b, 0, none⟩), .int .i64 c] w fun e w' => e = .returned (.int .i64 202) ∧ w' = w := by
  obtain ⟨hK, p, rfl, hf, hm⟩ := h
  exact clear_no hm c hc

theorem u_trace {w0 w : World} {b : Nat} {A : Ar} (h : Has w0 w b A) (c : Int) (c0 : 0 ≤ c) (c1 : c < (A.traces.length : Int)) (hn : (A.traces.getD c.toNat []).length < 1000000) :
    Calls Try.prog 23 #[.pointer (some ⟨b, 0, none⟩), .int .i64 c] w fun e w' => ∃ u, e = .returned u ∧ Row w' u (A.traces.getD c.toNat []) ∧ (∀ k, u.ownBlock = some k → w.heap.size ≤ k) ∧ Kept [] w w' := by
  obtain ⟨hK, p, rfl, hf, hm⟩ := h
  obtain ⟨i, rfl⟩ := Int.eq_ofNat_of_zero_le c0
  exact trace_yes hm i (by omega) hn

theorem u_trace_no {w0 w : World} {b : Nat} {A : Ar} (h : Has w0 w b A) (c : Int) (hc : c < 0 ∨ (A.traces.length : Int) ≤ c) :
    Calls Try.prog 23 #[.pointer (some ⟨b, 0, none⟩), .int .i64 c] w fun e w' => e = .returned (.slice none 0 0) ∧ w' = w := by
  obtain ⟨hK, p, rfl, hf, hm⟩ := h
  exact trace_no hm c hc

/-- A slice that was just built. -/
theorem row_built {w : World} {g : Nat} {t : List (Int × Bool)} {cs : Array Value} (hc : cs.toList = acc t) (ht : t ≠ []) (hn : t.length < 1000000) (h : w.heap[g]? = some (.cells cs 54 (0, 0))) (n m : Nat) (hnm : n = t.length) (hm : m = t.length) : Row w (.slice (some ⟨g, 0, none⟩) n m) t := by
  subst hnm hm
  have hs : cs.size = t.length * 2 := by rw [← Array.length_toList, hc, acc_length]
  exact ⟨⟨acc_length t, Or.inr ⟨g, t.length, cs, rfl, Nat.zero_le _, h, Nat.le_refl _, by unfold maxLen; omega, hs, by rw [hc, ← acc_length]; exact List.take_length⟩⟩, fun e => absurd e ht⟩

theorem Row.still {w w' : World} {v : Value} {t : List (Int × Bool)} (h : Row w v t) (hk : Kept [] w w') : Row w' v t :=
  h.same fun k e => hk.block k (h.block k e) (by simp)

set_option maxRecDepth 100000 in
set_option maxHeartbeats 4000000 in
theorem awake_any (w : World) : Calls Try.prog 11 #[] w fun e w' => e = .returned (.bool true) ∧ Kept [] w w' := by
  go_enter Try.func11, Try.ntmps11
  go_wp2_with fail
  refine (u_new w 4 2 (by omega) (by omega) (by omega) (by omega)).mono ?_
  rintro e w1 ⟨b, rfl, hm⟩
  have hm1 : Has w w1 b ⟨[0, 0, 0, 0], [[], []]⟩ := hm
  clear hm
  go_wp2_with fail
  refine (u_store hm1 0 1 5 (by omega) (by decide) (by omega) (by decide) (by decide)).mono ?_
  rintro e w2 ⟨rfl, hm⟩
  have hm2 : Has w w2 b ⟨[0, 5, 0, 0], [[(1, true)], []]⟩ := hm
  clear hm hm1
  go_wp2_with fail
  refine (u_cas hm2 1 1 5 6 (by omega) (by decide) (by omega) (by decide) (by decide) (by decide)).mono ?_
  rintro e w3 ⟨rfl, hm⟩
  have hm3 : Has w w3 b ⟨[0, 6, 0, 0], [[(1, true)], [(1, true)]]⟩ := hm
  clear hm hm2
  go_wp2_with fail
  refine (u_add hm3 1 1 2 (by omega) (by decide) (by omega) (by decide) (by decide)).mono ?_
  rintro e w4 ⟨rfl, hm⟩
  have e8 : wrap64 (wordAt (⟨[0, 6, 0, 0], [[(1, true)], [(1, true)]]⟩ : Ar).words (1 : Int).toNat + 2) = 8 := by
    show wrap64 (6 + 2) = 8
    unfold wrap64
    decide
  rw [e8] at hm ⊢
  have hm4 : Has w w4 b ⟨[0, 8, 0, 0], [[(1, true)], [(1, true), (1, true)]]⟩ := hm
  clear hm hm3
  go_wp2_with fail
  refine (u_load hm4 0 1 (by omega) (by decide) (by omega) (by decide) (by decide)).mono ?_
  rintro e w5 ⟨rfl, hm⟩
  rw [show wordAt (⟨[0, 8, 0, 0], [[(1, true)], [(1, true), (1, true)]]⟩ : Ar).words (1 : Int).toNat = 8 from by decide]
  have hm5 : Has w w5 b ⟨[0, 8, 0, 0], [[(1, true), (1, false)], [(1, true), (1, true)]]⟩ := hm
  clear hm hm4
  go_wp2_with fail
  refine (u_load_nocore hm5 2 0 (by decide)).mono ?_
  rintro e w6 ⟨rfl, hm6⟩
  clear hm5
  go_wp2_with fail
  refine (u_load_noplace hm6 0 4 (by omega) (by decide) (by decide)).mono ?_
  rintro e w7 ⟨rfl, hm7⟩
  clear hm6
  have HM : Hid (_) := hm7
  clear hm7
  have hb : ∀ W : World, Row (W.alloc (.cells #[.int .i64 1, .bool true, .int .i64 1, .bool false] 54)) (.slice (some ⟨W.heap.size, 0, none⟩) 2 2) [(1, true), (1, false)] := fun W => row_built (cs := #[.int .i64 1, .bool true, .int .i64 1, .bool false]) rfl (by simp) (by decide) (heap_alloc_new W _) 2 2 rfl rfl
  go_wp2_with (first
    | (go_at_call 10; refine (num _ _).mono ?_; rintro e w' ⟨rfl, rfl⟩)
    | (go_at_call 23; refine (u_trace HM.out 0 (by omega) (by decide) (by decide)).mono ?_; rintro e w8 ⟨u, rfl, hu, hub, hk8⟩)
    | (go_at_call 22; refine (same_any (t := [(1, true), (1, false)]) (by decide) (Row.still hu ((Kept.refl _ _).alloc _)) (hb _)).mono ?_; rintro e w9 ⟨rfl, hk9⟩))
  go_ret
  exact ⟨rfl, (HM.out.1.trans hk8 (by simp)).trans (((Kept.refl [] w8).alloc _).trans hk9 (by simp)) (by simp)⟩

end Go.Proofs.Ytkaijfpenokmbaa
