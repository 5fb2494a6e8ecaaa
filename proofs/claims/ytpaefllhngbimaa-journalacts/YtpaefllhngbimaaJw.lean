/-
  Package journal's fill: a text is written to an area, its lines are sent on their way.
-/
import Derived.Test.YtpaefllhngbimaaJp
import Derived.Deep.RegionHeld3
import Derived.Test.YtpaefllhngbimaaTi
namespace Go.Proofs.Ytpaefllhngbimaa
open Go.RowKit Go.Shelf
attribute [local go_sem] Oper.semAt_some
set_option linter.unusedVariables false
set_option maxRecDepth 100000

/-- The stores of so many words, from the third word of an area on. -/
def stsOf (at_ : Nat) (pre : List Int) : List Op := pre.zipIdx.map fun p => .st (at_ + (2 + p.2)) p.1

theorem stsOf_snoc (at_ : Nat) (pre : List Int) (x : Int) : stsOf at_ (pre ++ [x]) = stsOf at_ pre ++ [.st (at_ + (2 + pre.length)) x] := by
  unfold stsOf
  rw [List.zipIdx_append, List.map_append]
  simp

theorem stsOf_words (at_ : Nat) (s : ByteArray) : stsOf at_ (wordsOf s) = (List.range (nWords s)).map fun i => .st (at_ + (2 + i)) (wordOf s i) := by
  unfold wordsOf
  generalize nWords s = n
  induction n with
  | zero => rfl
  | succ n ih => rw [List.range_succ, List.map_append, List.map_append]; simp only [List.map_cons, List.map_nil]; rw [stsOf_snoc, ih]; simp

theorem stsOf_length (at_ : Nat) (pre : List Int) : (stsOf at_ pre).length = pre.length := by simp [stsOf]

theorem run_sto (M : Pm) (os : List Op) (k : Nat) (v : Int) : (M.run os).store k v = M.run (os ++ [.st k v]) := by rw [run_append]; rfl

/-- The block of a loop's deferred calls is none of the memory's. -/
theorem HjB.mark {B : Nat} {S : List (Nat × Obj)} {w0 w : World} {b D : Nat} {M : Pm} {x : Option (List Deferred)} (h : HjB B S w0 w b M) (hD : B ≤ D) (hw : w.heap[D]? = some (.deferred x)) : Hj ((D, .deferred x) :: S) w0 w b M := by
  obtain ⟨hK, p, hb, hm, hf, hS, hv⟩ := h
  refine ⟨hK, p, hb, hm, hf, fun y hy => ?_⟩
  rcases List.mem_cons.1 hy with rfl | hy
  · refine ⟨hw, fun hk => ?_⟩
    obtain ⟨o, h1, h2⟩ := own_cells hm hv hk hD
    dsimp only at h1
    rw [hw] at h1; cases h1; cases h2
  · exact ⟨(hS y hy).1, (hS y hy).2.1⟩

theorem Hj.shut {S : List (Nat × Obj)} {w0 w : World} {b D : Nat} {o o' : Obj} {M : Pm} (h : Hj ((D, o) :: S) w0 w b M) (hD : w0.heap.size ≤ D) (hS2 : ∀ x ∈ S, x.1 ≠ D) : Hj S w0 (w.putObj D o') b M := by
  obtain ⟨hK, p, hb, hm, hf, hS⟩ := h
  have hg := grownBy_putObj' w D o'
  have hoth : ∀ i, i < w.heap.size → i ≠ D → (w.putObj D o').heap[i]? = w.heap[i]? := fun i hi hn => hg.block i hi (fun e => hn (by cases e; rfl))
  obtain ⟨h1, h2⟩ := hS (D, o) (by simp)
  refine ⟨⟨hg.os.trans hK.os, hg.tape.trans hK.tape, hg.output.trans hK.output, Nat.le_trans hK.size hg.size, fun k hk _ => ?_⟩, p, hb, hm.same fun i hi => hoth i (hm.blocks_lt i hi) (fun e => h2 (by rw [← e]; exact hi)), hf, fun x hx => ?_⟩
  · rw [hoth k (Nat.lt_of_lt_of_le hk hK.size) (by omega)]; exact hK.block k hk (by simp)
  · obtain ⟨g1, g2⟩ := hS x (by simp [hx])
    exact ⟨by rw [hoth x.1 (lt_of_heap g1) (hS2 x hx)]; exact g1, g2⟩

theorem wr64 (x : Int) (h0 : 0 ≤ x) (h1 : x < 4611686018427387904) : wrap64 x = x := by unfold wrap64; omega

theorem h_sto {S : List (Nat × Obj)} {w0 w : World} {b : Nat} {M : Pm} (h : Hj S w0 w b M) {x v' : Int} {k : Nat} {v : Int} (hx : x = (k : Int)) (hv : v' = v) (hk : k < M.seen.length)
    (hs0 : 0 ≤ M.steps) (hs : M.steps < 900000000) (ht0 : 0 ≤ M.stores) (ht : M.stores < 900000000) :
    Calls Try.prog 11 #[.pointer (some ⟨b, 0, none⟩), .int .i64 x, .int .u64 v'] w fun e w' => e = .returned (.int .i64 0) ∧ Hj S w0 w' b (M.store k v) := by
  subst hx hv
  exact h_store h (k : Int) v' (by omega) (by omega) (by omega) (by omega) (by omega) (by omega)

set_option maxHeartbeats 4000000 in
theorem j_fill {S : List (Nat × Obj)} {w0 w : World} {b j : Nat} {M : Pm} (h : Hj S w0 w b M) {f n : Int} (hj : (j, jn b f n) ∈ S) (a : Nat) (s : ByteArray) (hsz : s.size ≤ 65536) (hl : a + (2 + nWords s) ≤ M.seen.length)
    (h8 : M.seen.length % 8 = 0) (htop : M.seen.length ≤ 65536) (hs0 : 0 ≤ M.steps) (hs : M.steps < 800000000) (ht0 : 0 ≤ M.stores) (ht : M.stores < 800000000) :
    Calls Try.prog 51 #[.pointer (some ⟨j, 0, none⟩), .int .i64 (a : Int), .string s] w fun e w' => e = .returned (.tuple #[]) ∧ Hj S w0 w' b (M.run (fillOps a s)) := by
  have h1 := (h.make (.cells #[.pointer (some ⟨j, 0, none⟩)] 32)).make (.cells #[.int .i64 (a : Int)] 3)
  have hlt0 : w.heap.size = w.heap.size := rfl
  have hsum := fun w => p_of s w (by omega)
  obtain ⟨W1, hW1⟩ : ∃ W1, W1 = (w.alloc (.cells #[.pointer (some ⟨j, 0, none⟩)] 32)).alloc (.cells #[.int .i64 (a : Int)] 3) := ⟨_, rfl⟩
  rw [← hW1] at h1
  have hz1 : (w.alloc (.cells #[.pointer (some ⟨j, 0, none⟩)] 32)).heap.size = w.heap.size + 1 := by simp
  rw [hz1] at h1
  have cells : ∀ {W : World} {N : Pm}, Hj ((w.heap.size + 1, .cells #[.int .i64 (a : Int)] 3) :: (w.heap.size, .cells #[.pointer (some ⟨j, 0, none⟩)] 32) :: S) w0 W b N →
      W.cell? ⟨w.heap.size, 0, none⟩ = some (.pointer (some ⟨j, 0, none⟩)) ∧ W.cell? ⟨w.heap.size + 1, 0, none⟩ = some (.int .i64 (a : Int)) ∧ W.cell? ⟨j, 0, none⟩ = some (.pointer (some ⟨b, 0, none⟩)) := by
    intro W N hW
    have e1 := hW.at (x := (w.heap.size, .cells #[.pointer (some ⟨j, 0, none⟩)] 32)) (by simp)
    have e2 := hW.at (x := (w.heap.size + 1, .cells #[.int .i64 (a : Int)] 3)) (by simp)
    have e3 := hW.at (x := (j, jn b f n)) (by simp [hj])
    refine ⟨?_, ?_, ?_⟩
    · simp [World.cell?, e1]
    · simp [World.cell?, e2]
    · simp [World.cell?, e3]
  have HC : Hid (_) := @cells
  have HX : Hid (Hj ((w.heap.size + 1, .cells #[.int .i64 (a : Int)] 3) :: (w.heap.size, .cells #[.pointer (some ⟨j, 0, none⟩)] 32) :: S) w0 W1 b M) := h1
  obtain ⟨k0, k1, k2⟩ := cells h1
  have hKd : Kept [] W1 W1.drew := (Kept.refl _ _).drew
  clear cells h h1
  refine (callsIn_wide (n := 9)).1 ?_
  refine callsIn_of_wp_marks Try.func51 rfl trivial ?_ rfl
  simp only [Try.ntmps51, List.size_toArray, List.length_cons, List.length_nil, Nat.reduceAdd, Nat.reduceSub, Array.replicate_succ, Array.replicate_zero, List.push_toArray, List.append_toArray, List.nil_append, List.cons_append]
  refine wpIn_wide.2 ?_
  go_wp2
  rw [← hW1]
  clear hW1 hz1 hlt0
  have ew1 : Hid (IntKind.i64.wrap (a : Int) = (a : Int)) := by show _ = _; rw [IntKind.wrap_i64]; omega
  have ew2 : Hid (IntKind.u64.wrap ((s.size : Nat) : Int) = ((s.size : Nat) : Int)) := by show _ = _; rw [IntKind.wrap_u64]; omega
  have ew3 : Hid (IntKind.i64.wrap ((a : Int) + 1) = ((a + 1 : Nat) : Int)) := by show _ = _; rw [IntKind.wrap_i64]; omega
  have q1 : Hid (a < M.seen.length ∧ 0 ≤ M.steps ∧ M.steps < 900000000 ∧ 0 ≤ M.stores ∧ M.stores < 900000000) := ⟨by omega, hs0, by omega, ht0, by omega⟩
  go_region_held3 (fun w' => w'.cell? ⟨w.heap.size, 0, none⟩ = some (.pointer (some ⟨j, 0, none⟩)) ∧ w'.cell? ⟨w.heap.size + 1, 0, none⟩ = some (.int .i64 (a : Int)) ∧ w'.cell? ⟨j, 0, none⟩ = some (.pointer (some ⟨b, 0, none⟩))) (first | exact z | go_keep)
    (first
      | (go_at_call 11; refine (h_sto (HX.out.still (by assumption)) ew1.out ew2.out q1.out.1 q1.out.2.1 q1.out.2.2.1 q1.out.2.2.2.1 q1.out.2.2.2.2).mono ?_; rintro e w2 ⟨rfl, hw2⟩; have z := HC.out hw2; have HX2 : Hid (Hj _ w0 w2 b _) := hw2; clear hw2))
  obtain ⟨z0, z1, z2⟩ := z
  clear k0 k1 k2 hKd HX ew1 ew2 q1
  have hKd : Kept [] w2 w2.drew := (Kept.refl _ _).drew
  have q1 : Hid (a + 1 < (M.store a (s.size : Int)).seen.length ∧ 0 ≤ (M.store a (s.size : Int)).steps ∧ (M.store a (s.size : Int)).steps < 900000000 ∧ 0 ≤ (M.store a (s.size : Int)).stores ∧ (M.store a (s.size : Int)).stores < 900000000) := by
    show _ ∧ _
    rw [store_seen, store_steps, store_stores, List.length_set]
    exact ⟨by omega, by omega, by omega, by omega, by omega⟩
  go_wp2
  go_region_held3 (fun w' => w'.cell? ⟨w.heap.size, 0, none⟩ = some (.pointer (some ⟨j, 0, none⟩)) ∧ w'.cell? ⟨w.heap.size + 1, 0, none⟩ = some (.int .i64 (a : Int)) ∧ w'.cell? ⟨j, 0, none⟩ = some (.pointer (some ⟨b, 0, none⟩))) (first | exact z | go_keep)
    (first
      | (go_at_call 57; refine (hsum _).mono ?_; rintro e w3 ⟨rfl, hw3⟩; subst hw3)
      | (go_at_call 11; refine (h_sto (HX2.out.still (by assumption)) ew3.out (Eq.refl ((sumS s).toNat : Int)) q1.out.1 q1.out.2.1 q1.out.2.2.1 q1.out.2.2.2.1 q1.out.2.2.2.2).mono ?_; rintro e w3 ⟨rfl, hw3⟩; have z := HC.out hw3; have HX3 : Hid (Hj _ w0 w3 b _) := hw3; clear hw3))
  clear z z0 z1 z2 hKd HX2 ew3 hsum
  have HQ : Hid (_) := q1.out
  clear q1
  obtain ⟨M2, hM2⟩ : ∃ M2, M2 = (M.store a (s.size : Int)).store (a + 1) ((sumS s).toNat : Int) := ⟨_, rfl⟩
  rw [← hM2] at HX3
  have hM2l : M2.seen.length = M.seen.length := by rw [hM2, store_seen, store_seen, List.length_set, List.length_set]
  have hM2s : M2.steps = M.steps + 2 := by rw [hM2, store_steps, store_steps]; omega
  have hM2t : M2.stores = M.stores + 2 := by rw [hM2, store_stores, store_stores]; omega
  have HM : Hid (_ = _) := hM2
  clear hM2 HQ
  go_wp2_with (first
    | (go_at_call 60; refine (j_packed _ _).mono ?_; rintro e w4 ⟨rfl, rfl⟩))
  have h4 := (HX3.out.make (.cells #[.int .i64 2] 3)).make (.cells #[.string s] 9)
  rw [show (w3.alloc (.cells #[.int .i64 2] 3)).heap.size = w3.heap.size + 1 from by simp] at h4
  have hlt : ∀ x ∈ ((w.heap.size + 1, Obj.cells #[.int .i64 (a : Int)] 3 (0, 0)) :: (w.heap.size, Obj.cells #[.pointer (some ⟨j, 0, none⟩)] 32 (0, 0)) :: S), x.1 < w3.heap.size := fun x hx => lt_of_heap (HX3.out.at hx)
  have hw0 : w0.heap.size ≤ w3.heap.size := HX3.out.1.size
  clear HX3
  obtain ⟨W4, hW4⟩ : ∃ W4, W4 = (w3.alloc (.cells #[.int .i64 2] 3)).alloc (.cells #[.string s] 9) := ⟨_, rfl⟩
  rw [← hW4] at h4 ⊢
  have hW4s : W4.heap.size = w3.heap.size + 2 := by rw [hW4]; simp
  clear hW4
  obtain ⟨S1, hS1⟩ : ∃ S1, S1 = (w.heap.size + 1, Obj.cells #[.int .i64 (a : Int)] 3 (0, 0)) :: (w.heap.size, Obj.cells #[.pointer (some ⟨j, 0, none⟩)] 32 (0, 0)) :: S := ⟨_, rfl⟩
  rw [← hS1] at h4 hlt
  have h4b := (h4.sub (S' := (w3.heap.size, .cells #[.int .i64 ((2 + 0 : Nat) : Int)] 3) :: (w3.heap.size + 1, .cells #[.string s] 9) :: S1) (fun x hx => by
    simp only [List.mem_cons] at hx ⊢
    rcases hx with rfl | rfl | hx
    · exact Or.inr (Or.inl rfl)
    · exact Or.inl rfl
    · exact Or.inr (Or.inr hx))).toB
  have hbox := h4.at (x := (w3.heap.size + 1, .cells #[.string s] 9)) (by simp)
  have HB0 : Hid (HjB W4.heap.size ((w3.heap.size, .cells #[.int .i64 ((2 + 0 : Nat) : Int)] 3) :: (w3.heap.size + 1, .cells #[.string s] 9) :: S1) w0 W4 b M2) := h4b
  clear h4 h4b
  generalize IntKind.i64.wrap ((a : Int) + 1) = d3
  generalize IntKind.i64.wrap (a : Int) = d1
  generalize IntKind.u64.wrap ((s.size : Nat) : Int) = d2
  refine (wpIn_wide (n := 9)).1 ?_
  refine wpIn_rangeFunc_ownG rfl (by omega) (gf := 62) (lb := #[.pointer (some ⟨w3.heap.size + 1, 0, none⟩)]) rfl trivial (enters_of Try.func62 (by kernel_rfl) rfl)
    (packed_stops 8 (w3.heap.size + 1) s hsz W4 hbox) (fun h k => k.trans h) (fun W l o o' hl _ _ _ => World.putObj_heap_other (fun e => by omega)) (Below.refl _ _) (fun _ => rfl)
    (fun pre W => HjB W4.heap.size ((w3.heap.size, .cells #[.int .i64 ((2 + pre.length : Nat) : Int)] 3) :: (w3.heap.size + 1, .cells #[.string s] 9) :: S1) w0 W b (M2.run (stsOf a pre)))
    (fun _ _ _ => False)
    (HjB.own (S := fun pre : List Int => (w3.heap.size, Obj.cells #[.int .i64 ((2 + pre.length : Nat) : Int)] 3 (0, 0)) :: (w3.heap.size + 1, Obj.cells #[.string s] 9 (0, 0)) :: S1) (M := fun pre => M2.run (stsOf a pre)) (by omega))
    (fun _ _ _ _ _ hs _ _ => hs)
    HB0.out
    (fun x => { tmps := #[.pointer (some ⟨j, 0, none⟩), .int .i64 a, .string s, .pointer (some ⟨w.heap.size, 0, none⟩), .pointer (some ⟨w.heap.size + 1, 0, none⟩), undef, .pointer (some ⟨w3.heap.size, 0, none⟩), .int .u64 x,
    .pointer (some ⟨j, 0, none⟩), .pointer (some ⟨j, 0, none⟩), .pointer (some ⟨j, 0, none⟩), .pointer (some ⟨b, 0, none⟩), .int .i64 a, .int .i64 d1, .string s, .int .i64 s.size, .int .u64 d2, .int .i64 0,
    .pointer (some ⟨j, 0, none⟩), .pointer (some ⟨j, 0, none⟩), .pointer (some ⟨j, 0, none⟩), .pointer (some ⟨b, 0, none⟩), .int .i64 a, .int .i64 d3, .string s, .int .u64 (sumS s).toNat, .int .i64 0, .string s,
    .func (.func 62) #[] #[.pointer (some ⟨w3.heap.size + 1, 0, none⟩)], .int .u64 x, undef, undef, undef, undef, undef, undef, undef, undef, undef, undef, undef, undef, undef, undef, undef], defers := [] }) ?assign ?body ?done ?stop
  case assign =>
    intro l x W K hK
    gi_wp2
    exact hK
  case body =>
    rintro l pre x W hI hlen
    have hin : (j, jn b f n) ∈ S1 := by rw [hS1]; simp [hj]
    have e2n : ((2 + pre.length : Nat) : Int) = 2 + (pre.length : Int) := by omega
    have cells : ∀ {w' : World} {N : Pm}, HjB W4.heap.size ((w3.heap.size, .cells #[.int .i64 ((2 + pre.length : Nat) : Int)] 3) :: (w3.heap.size + 1, .cells #[.string s] 9) :: S1) w0 w' b N →
        (w'.cell? ⟨w3.heap.size, 0, none⟩ = some (.int .i64 (2 + (pre.length : Int))) ∧ w'.cell? ⟨w.heap.size, 0, none⟩ = some (.pointer (some ⟨j, 0, none⟩)) ∧ w'.cell? ⟨w.heap.size + 1, 0, none⟩ = some (.int .i64 (a : Int)) ∧ w'.cell? ⟨j, 0, none⟩ = some (.pointer (some ⟨b, 0, none⟩))) ∧ w'.frozen? ⟨w3.heap.size, 0, none⟩ = false := by
      intro w' N hW
      have e0 := hW.at (x := (w3.heap.size, .cells #[.int .i64 ((2 + pre.length : Nat) : Int)] 3)) (by simp)
      have e1 := hW.at (x := (w.heap.size, .cells #[.pointer (some ⟨j, 0, none⟩)] 32)) (by rw [hS1]; simp)
      have e2 := hW.at (x := (w.heap.size + 1, .cells #[.int .i64 (a : Int)] 3)) (by rw [hS1]; simp)
      have e3 := hW.at (x := (j, jn b f n)) (by simp [hin])
      rw [e2n] at e0
      refine ⟨⟨?_, ?_, ?_, ?_⟩, ?_⟩
      · simp [World.cell?, e0]
      · simp [World.cell?, e1]
      · simp [World.cell?, e2]
      · simp [World.cell?, e3]
      · simp [World.frozen?, e0]
    obtain ⟨hcW, -⟩ := cells hI.drew
    have hsl : (M2.run (stsOf a pre)).seen.length = M.seen.length := by rw [run_seen, seenBy_length, hM2l]
    have hst : (M2.run (stsOf a pre)).steps = M.steps + 2 + pre.length := by rw [run_steps, stsOf_length, hM2s]
    have hso := run_stores (stsOf a pre) M2
    rw [stsOf_length, hM2t] at hso
    have hnw : nWords s ≤ 8192 := by unfold nWords; omega
    have hadr : IntKind.i64.wrap ((a : Int) + (2 + (pre.length : Int))) = ((a + (2 + pre.length) : Nat) : Int) := by rw [IntKind.wrap_i64]; omega
    have hstore : Calls Try.prog 11 #[.pointer (some ⟨b, 0, none⟩), .int .i64 (IntKind.i64.wrap ((a : Int) + (2 + (pre.length : Int)))), .int .u64 x] W.drew fun e w' => e = .returned (.int .i64 0) ∧
        (w'.cell? ⟨w3.heap.size, 0, none⟩ = some (.int .i64 (2 + (pre.length : Int))) ∧ w'.cell? ⟨w.heap.size, 0, none⟩ = some (.pointer (some ⟨j, 0, none⟩)) ∧ w'.cell? ⟨w.heap.size + 1, 0, none⟩ = some (.int .i64 (a : Int)) ∧ w'.cell? ⟨j, 0, none⟩ = some (.pointer (some ⟨b, 0, none⟩))) ∧ w'.frozen? ⟨w3.heap.size, 0, none⟩ = false ∧ Hid (HjB W4.heap.size ((w3.heap.size, .cells #[.int .i64 ((2 + pre.length : Nat) : Int)] 3) :: (w3.heap.size + 1, .cells #[.string s] 9) :: S1) w0 w' b (M2.run (stsOf a (pre ++ [x]))) ∧ KeepsFrom W4.heap.size W w') := by
      have := b_store hI.drew ((a + (2 + pre.length) : Nat) : Int) x (by omega) (by omega) (by omega) (by omega) (by omega) (by omega)
      rw [run_sto, Int.toNat_natCast, ← stsOf_snoc] at this
      rw [hadr]
      refine this.mono ?_
      rintro e w5 ⟨he, hw5, hk5⟩
      exact ⟨he, (cells hw5).1, (cells hw5).2, hw5, ((KeepsOthers.drew W).from _).trans hk5⟩
    have HS : Hid (_) := hstore
    have HE : Hid (_ = _) := e2n
    have hbW := hI.at (x := (w3.heap.size + 1, .cells #[.string s] 9)) (by simp)
    have HBW : Hid (_ = _) := hbW
    have HWR : Hid (wrap64 (2 + (pre.length : Int) + 1) = 2 + (pre.length : Int) + 1) := wr64 _ (by omega) (by omega)
    clear hstore cells hI hsl hst hso hnw hadr e2n hlen hbW
    gi_wp2
    refine round_held (S := fun w' => w'.cell? ⟨w3.heap.size, 0, none⟩ = some (.int .i64 (2 + (pre.length : Int))) ∧ w'.cell? ⟨w.heap.size, 0, none⟩ = some (.pointer (some ⟨j, 0, none⟩)) ∧ w'.cell? ⟨w.heap.size + 1, 0, none⟩ = some (.int .i64 (a : Int)) ∧ w'.cell? ⟨j, 0, none⟩ = some (.pointer (some ⟨b, 0, none⟩))) (by kernel_rfl) (by kernel_rfl) (by rintro ⟨_, _, h⟩; first | exact h | simp at h) hcW (fun hHeld => ?_)
    refine tkA 0 rfl ?_
    refine tkA 1 rfl ?_
    refine tkA 2 rfl ?_
    refine tkA 3 rfl ?_
    refine tkA 4 rfl ?_
    refine tkA 5 rfl ?_
    refine tkA 6 rfl ?_
    refine tkA 7 rfl ?_
    refine wpAnyH_ready (rs := [8]) (by kernel_rfl) (by simp) ?_
    refine AllReadyH.cons rfl (fun K hK => ?_) AllReadyH.nil
    go_simp
    refine Calls.mono HS.out ?_
    rintro e w5 ⟨rfl, h5, f5, HW⟩
    go_wp2_with fail
    refine hK.out _ _ ?_ (fun hHeld => ?_)
    · exact h5
    clear hK K
    refine wpAnyH_done (by kernel_rfl) ?_ _
    obtain ⟨g5, -, -, -⟩ := h5
    clear hHeld hcW
    have hlen2 : ((2 + (pre ++ [x]).length : Nat) : Int) = 2 + (pre.length : Int) + 1 := by rw [List.length_append]; simp; omega
    have HP : Hid (_) := And.intro (HW.out.1.put (v' := .int .i64 ((2 + (pre ++ [x]).length : Nat) : Int)) (by omega) (fun y hy => by
      rcases List.mem_cons.1 hy with rfl | hy
      · dsimp only; omega
      · have := hlt y hy; omega)) (HW.out.2.trans ((KeepsOthers.setCell w5 ⟨w3.heap.size, 0, none⟩ (.int .i64 ((2 + (pre ++ [x]).length : Nat) : Int))).from W4.heap.size))
    rw [hlen2] at HP
    clear HW
    gi_wp2
    have hq := HP.out
    rw [← hlen2] at hq
    rw [HWR.out, ← hlen2]
    exact ⟨hq.2, (hq.1.at (x := (w3.heap.size + 1, .cells #[.string s] 9)) (by simp)).trans HBW.out.symm, hq.1⟩
  case done =>
    rintro D ys W hD rfl hI hK
    have hm := hI.mark hD hK
    have hin : (j, jn b f n) ∈ S1 := by rw [hS1]; simp [hj]
    have hlw : (wordsOf s).length = nWords s := by simp [wordsOf]
    rw [hlw] at hm
    have e0 := hm.at (x := (w3.heap.size, .cells #[.int .i64 ((2 + nWords s : Nat) : Int)] 3)) (by simp)
    have e1 := hm.at (x := (w.heap.size, .cells #[.pointer (some ⟨j, 0, none⟩)] 32)) (by rw [hS1]; simp)
    have e2 := hm.at (x := (w.heap.size + 1, .cells #[.int .i64 (a : Int)] 3)) (by rw [hS1]; simp)
    have g0 : W.cell? ⟨w3.heap.size, 0, none⟩ = some (.int .i64 ((2 + nWords s : Nat) : Int)) := by simp [World.cell?, e0]
    have g1 : W.cell? ⟨w.heap.size, 0, none⟩ = some (.pointer (some ⟨j, 0, none⟩)) := by simp [World.cell?, e1]
    have g2 : W.cell? ⟨w.heap.size + 1, 0, none⟩ = some (.int .i64 (a : Int)) := by simp [World.cell?, e2]
    have hsl : (M2.run (stsOf a (wordsOf s))).seen.length = M.seen.length := by rw [run_seen, seenBy_length, hM2l]
    have hst : (M2.run (stsOf a (wordsOf s))).steps = M.steps + 2 + nWords s := by rw [run_steps, stsOf_length, hM2s, hlw]
    have hnw : nWords s ≤ 8192 := by unfold nWords; omega
    have hfl := j_flush hm (j := j) (f := f) (n := n) (by simp [hin]) a (2 + nWords s) (by omega) (by omega) (by omega) (by omega) (by omega)
    have HF : Hid (_) := hfl
    have hS2 : ∀ x ∈ S, x.1 ≠ D := fun x hx => by have := hlt x (by rw [hS1]; simp [hx]); omega
    have hMe : (M2.run (stsOf a (wordsOf s))).run (flOps a (2 + nWords s)) = M.run (fillOps a s) := by
      rw [HM.out, stsOf_words]; unfold fillOps fillSts; rw [run_append, run_append]; rfl
    have HX : Hid (_ ∧ _) := ⟨hS2, hMe⟩
    clear hfl hm e0 e1 e2 hsl hst hnw hI hS2 hMe HB0
    go_wp2_with (first
      | (go_at_call 54; refine Calls.mono HF.out ?_; rintro e w6 ⟨rfl, hw6⟩))
    have hK2 := hw6.at (x := (D, .deferred (some []))) (by simp)
    refine ⟨by simp, .inl ⟨_, _, rfl, run_takeDeferred hK2, ?_⟩⟩
    refine ⟨_, results_none rfl _ _ _, rfl, ?_⟩
    have hw7 := (hw6.sub (S' := (D, .deferred (some [])) :: S) (fun x hx => by
      rcases List.mem_cons.1 hx with rfl | hx
      · simp
      · rw [hS1]; simp [hx])).shut (o' := .deferred none) (by omega) HX.out.1
    rw [HX.out.2] at hw7
    exact hw7
  case stop =>
    rintro D c pre W _ _ h _
    exact h.elim

end Go.Proofs.Ytpaefllhngbimaa
