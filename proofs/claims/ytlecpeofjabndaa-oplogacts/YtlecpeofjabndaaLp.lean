/-
  slices.IndexFunc and slices.DeleteFunc of records, as Drop calls them.
-/
import Derived.Test.YtlecpeofjabndaaLn
namespace Go.Proofs.Ytlecpeofjabndaa
open Go.RowKit
set_option linter.unusedVariables false
set_option linter.unusedSimpArgs false

/-- At a clear: whatever it does, by its run. -/
theorem wpList_clear_run {P : Program} (w : World) {ops : Array Oper} {rest : List Oper} {o : Oper} {a : Act} {Q : Exit → Act → World → Prop} (hgd : o.guard = none) (s : Operand) (t1 : TypeId)
    (ho : o.op = .call { callee := .builtin .clear, args := #[s], argTypes := #[t1] }) (v : Value) (hs : a.eval s = v) (v' : Value) (w' : World)
    (hr : (Builtin.clear_ #[t1] o.type #[v]).run P w = .ok v' w') (h : wpList P ops Q rest (a.put o.dst v') w') : wpList P ops Q (o :: rest) a w := by
  refine wpList_plain hgd fun K hK => ?_
  unfold Oper.wp execOp
  simp only [ho, resolve, invoke, builtin, Sem.run_bind, Sem.run_pure, Result.andThen_ok, List.map_toArray, List.map_cons, List.map_nil, hs, hr]
  exact hK _ _ h

theorem run_clear_any {P : Program} (w : World) (t e ty : TypeId) (z : Value) (k : Nat) (ht : P.underlying t = some (.slice e)) (hz : ∀ w, (zeroValue e).run P w = .ok z w) (hzs : z.cells.size = k) (hk : 0 < k) (h1 : ∀ v ∈ z.cells.toList, v.oneCell' = true) (g o n c : Nat) (cur : Array Value) (T : TypeId)
    (hg : w.heap[g]? = some (.cells cur T (0, 0))) (hn : 0 < n) (hfit : o + n * k ≤ cur.size) :
    ∃ zs : List Value, zs.length = n * k ∧ (Builtin.clear_ #[t] ty #[.slice (some ⟨g, o, none⟩) n c]).run P w = .ok (.tuple #[]) (w.setRow g (cur.toList.take o ++ zs ++ cur.toList.drop (o + n * k)).toArray) := by
  have hlen : (Builtin.zeroCells z.cells n).toList.length = n * k := by
    unfold Builtin.zeroCells
    simp [hzs]
  have hone : ∀ v ∈ (Builtin.zeroCells z.cells n).toList, v.oneCell' = true := fun v hv => by
    unfold Builtin.zeroCells at hv
    simp only [Array.toList_map, List.mem_map] at hv
    obtain ⟨i, -, rfl⟩ := hv
    have hi : i % z.cells.size < z.cells.size := Nat.mod_lt _ (by omega)
    rw [getElem!_pos z.cells _ hi]
    exact h1 _ (by simp)
  have hst := run_storeCells_at P g o T (Builtin.zeroCells z.cells n).toList 0 cur w hg (by rw [hlen]; simpa using hfit) hone
  rw [hlen] at hst
  simp only [Nat.add_zero] at hst
  refine ⟨_, hlen, ?_⟩
  obtain ⟨m, rfl⟩ : ∃ m, n = m + 1 := ⟨n - 1, by omega⟩
  simp [Builtin.clear_, run_underlying ht, hz, hst]

/-- Cells laid from a place on. -/
theorem heap_setCells (g : Nat) (T : TypeId) : ∀ (vs : List Value) (o : Nat) (w : World) (A : List Value), w.heap[g]? = some (.cells A.toArray T (0, 0)) → o + vs.length ≤ A.length → (w.setCells g o vs).heap[g]? = some (.cells (A.take o ++ vs ++ A.drop (o + vs.length)).toArray T (0, 0)) := by
  intro vs
  induction vs with
  | nil => intro o w A h _; simp [World.setCells, h]
  | cons v vs ih =>
    intro o w A h hl
    simp only [List.length_cons] at hl
    rw [World.setCells, ih (o + 1) _ (A.set o v) (by rw [block_set h]; simp) (by simp; omega)]
    have e1 : (A.set o v).take (o + 1) = A.take o ++ [v] := by
      rw [List.take_succ_eq_append_getElem (by simp; omega)]
      have e3 : (A.set o v).take o = A.take o := by rw [List.take_set, List.set_eq_of_length_le (by rw [List.length_take]; omega)]
      rw [e3]
      simp
    have e2 : (A.set o v).drop (o + 1 + vs.length) = A.drop (o + 1 + vs.length) := by
      rw [List.drop_set_of_lt (by omega)]
    rw [e1, e2]
    simp [Nat.add_assoc, Nat.add_comm 1]

theorem kept_cells {g : Nat} : ∀ (vs : List Value) (o : Nat) {w0 w : World} {F : List Nat}, Kept F w0 w → g ∈ F → Kept F w0 (w.setCells g o vs)
  | [], _, _, _, _, h, _ => h
  | v :: vs, o, w0, w, F, h, hg => kept_cells vs (o + 1) (h.setCell (p := ⟨g, o, none⟩) (Or.inl hg) v) hg

/-- Does a record stay behind a Drop? -/
def keepB (ua uk : Int) (r : Rec) : Bool := lessS ua uk r.a r.k

theorem k2_kept {w w' : World} {Z : Nat} {u v : Value} (h : w.cell? ⟨Z, 0, none⟩ = some u ∧ w.cell? ⟨Z, 1, none⟩ = some v) {F : List Nat} (k : Kept F w w') (hZ : Z ∉ F) : w'.cell? ⟨Z, 0, none⟩ = some u ∧ w'.cell? ⟨Z, 1, none⟩ = some v :=
  ⟨k.cell h.1 hZ, k.cell h.2 hZ⟩

set_option maxRecDepth 100000 in
set_option maxHeartbeats 8000000 in
theorem p_goes {w : World} (a k kind core fd ofs num : Int) (p1 p2 dat : ByteArray) {ua uk : Int} {Z : Nat} (hZ : w.cell? ⟨Z, 0, none⟩ = some (.int .i64 ua) ∧ w.cell? ⟨Z, 1, none⟩ = some (.int .i64 uk)) :
    Calls Try.prog 28 #[.agg #[.int .i64 a, .int .i64 k, .int .i64 kind, .int .i64 core, .int .i64 fd, .int .i64 ofs, .int .i64 num, .string p1, .string p2, .string dat], .pointer (some ⟨Z, 0, none⟩)] w fun e w' => e = .returned (.bool (!keepB ua uk ⟨a, k, kind, core, fd, ofs, num, p1, p2, dat⟩)) ∧ Kept [] w w' := by
  obtain ⟨U, X, HU, HK, HB⟩ := box1 w #[.int .i64 a, .int .i64 k, .int .i64 kind, .int .i64 core, .int .i64 fd, .int .i64 ofs, .int .i64 num, .string p1, .string p2, .string dat] 57
  obtain ⟨z0, z1⟩ := k2_kept hZ HK.out.1 (by simp)
  have x0 : U.cell? ⟨X, 0, none⟩ = some (.int .i64 a) := cellB HB.out
  have x1 : U.cell? ⟨X, 1, none⟩ = some (.int .i64 k) := cellB HB.out
  have P := p_less ua uk a k U
  go_enter Try.func28, Try.ntmps28
  go_upto_region 1 with fail
  rw [HU.out.1, HU.out.2]
  clear HU
  go_wp2_with fail
  refine P.mono ?_
  rintro e w1 ⟨rfl, k1⟩
  have HK1 : Hid (_) := HK.out.1.trans k1 (by simp)
  clear k1 P
  go_wp2_with fail
  go_ret
  exact ⟨rfl, HK1.out⟩

theorem Rr.ten {w : World} {H : Nat} {v : Value} {R : List Rec} (h : Rr w H v R) {a : Option Addr} {l c : Nat} (hv : v = .slice a l c) {n : Nat} (hn : n < R.length) {r : Rec} (hr : R[n] = r) : ∃ g, a = some ⟨g, 0, none⟩ ∧ w.cell? ⟨g, n * 10, none⟩ = some (.int .i64 r.a) ∧ w.cell? ⟨g, n * 10 + 1, none⟩ = some (.int .i64 r.k) ∧ w.cell? ⟨g, n * 10 + 2, none⟩ = some (.int .i64 r.kind) ∧ w.cell? ⟨g, n * 10 + 3, none⟩ = some (.int .i64 r.core) ∧ w.cell? ⟨g, n * 10 + 4, none⟩ = some (.int .i64 r.fd) ∧ w.cell? ⟨g, n * 10 + 5, none⟩ = some (.int .i64 r.off) ∧ w.cell? ⟨g, n * 10 + 6, none⟩ = some (.int .i64 r.num) ∧ w.cell? ⟨g, n * 10 + 7, none⟩ = some (.string r.p1) ∧ w.cell? ⟨g, n * 10 + 8, none⟩ = some (.string r.p2) ∧ w.cell? ⟨g, n * 10 + 9, none⟩ = some (.string r.dat) := by
  obtain ⟨a', c', e, -, -, h2⟩ := h.slice
  rw [hv] at e
  simp only [Value.slice.injEq] at e
  obtain ⟨rfl, -, -⟩ := e
  obtain ⟨g, e2, h3⟩ := h2 n hn
  rw [hr] at h3
  exact ⟨g, e2, h3 0 _ rfl, h3 1 _ rfl, h3 2 _ rfl, h3 3 _ rfl, h3 4 _ rfl, h3 5 _ rfl, h3 6 _ rfl, h3 7 _ rfl, h3 8 _ rfl, h3 9 _ rfl⟩

/-- The first that goes. -/
def firstI (R : List Rec) (ua uk : Int) : Int := match R.findIdx? (fun r => !keepB ua uk r) with
  | none => -1
  | some n => (n : Int)

theorem ret_int {a b : Int} (h : a = b) : (Ending.returned (.int .i64 a)) = .returned (.int .i64 b) := by rw [h]

set_option maxRecDepth 100000 in
set_option maxHeartbeats 8000000 in
theorem p_ix {w : World} {H : Nat} {a : Option Addr} {c N : Nat} {R : List Rec} (h : Rr w H (.slice a N c) R) (hN : N = R.length) (hn : R.length ≤ 256) {ua uk : Int} {Z : Nat} (hZ : w.cell? ⟨Z, 0, none⟩ = some (.int .i64 ua) ∧ w.cell? ⟨Z, 1, none⟩ = some (.int .i64 uk)) :
    Calls Try.prog 35 #[.slice a N c, .func (.func 28) #[] #[.pointer (some ⟨Z, 0, none⟩)]] w fun e w' => e = .returned (.int .i64 (firstI R ua uk)) ∧ Kept [] w w' := by
  have HR : Hid (Rr w H (.slice a N c) R ∧ R.length = N) := ⟨h, hN.symm⟩
  have HZ : Hid (_ ∧ _) := hZ
  rw [← hN] at hn
  clear h hZ hN
  go_enter Try.func35, Try.ntmps35
  go_wp2_with fail
  go_loopw [8] (fun i wr => ∃ n : Nat, i = .int .i64 (n : Int) ∧ n ≤ N ∧ Hid (Kept [] w wr ∧ ∀ j (hj : j < R.length), j < n → keepB ua uk R[j] = true)) (fun i _ => (N - intOf i).toNat)
  case atStart => exact ⟨0, rfl, by omega, Kept.refl _ _, fun j _ hj => by omega⟩
  case round =>
    obtain ⟨n, rfl, hn2, HJ⟩ := hrel
    by_cases hlt : n < N
    · have i0 : (0 : Int) ≤ (n : Int) := by omega
      have i1 : (n : Int) < (N : Int) := by omega
      have hnR : n < R.length := by rw [HR.out.2]; exact hlt
      obtain ⟨r, hr⟩ : ∃ r, R[n] = r := ⟨_, rfl⟩
      have HRe : Hid (R[n] = r) := hr
      obtain ⟨g, ha, q0, q1, q2, q3, q4, q5, q6, q7, q8, q9⟩ := (HR.out.1.kept HJ.out.1 (by simp)).ten rfl hnR hr
      subst ha
      obtain ⟨a, k, kind, core, fd, ofs, num, p1, p2, dat⟩ := r
      dsimp only at q0 q1 q2 q3 q4 q5 q6 q7 q8 q9
      have HZ2 : Hid (_) := k2_kept HZ.out HJ.out.1 (by simp)
      clear hr
      go_wp2_with fail
      refine (p_goes a k kind core fd ofs num p1 p2 dat HZ2.out).mono ?_
      rintro e w1 ⟨rfl, k1⟩
      have HK : Hid (Kept [] w w1) := HJ.out.1.trans k1 (by simp)
      clear k1 q0 q1 q2 q3 q4 q5 q6 q7 q8 q9 HZ2
      rcases hb : keepB ua uk ⟨a, k, kind, core, fd, ofs, num, p1, p2, dat⟩ with _ | _
      · have HE : Hid (firstI R ua uk = (n : Int)) := by
          show _ = _
          have : R.findIdx? (fun r => !keepB ua uk r) = some n := by
            rw [List.findIdx?_eq_some_iff_getElem]
            refine ⟨hnR, by rw [HRe.out, hb]; rfl, fun j hj => ?_⟩
            rw [HJ.out.2 j (by omega) hj]; simp
          simp [firstI, this]
        clear hb
        go_wp2_with fail
        go_ret
        exact ⟨ret_int HE.out.symm, HK.out⟩
      · have HE : Hid (Kept [] w w1 ∧ ∀ j (hj : j < R.length), j < n + 1 → keepB ua uk R[j] = true) := ⟨HK.out, fun j hj hjn => by
          by_cases e : j = n
          · subst e; rw [HRe.out]; exact hb
          · exact HJ.out.2 j hj (by omega)⟩
        clear hb HK
        go_wp2_with fail
        go_roundw
        case rel => exact ⟨n + 1, by go_num, by omega, HE.out⟩
        case measure => simp [intOf]; omega
    · have i1 : ¬ (n : Int) < (N : Int) := by omega
      have HE : Hid (firstI R ua uk = -1) := by
        show _ = _
        have : R.findIdx? (fun r => !keepB ua uk r) = none := by
          rw [List.findIdx?_eq_none_iff]
          intro x hx
          obtain ⟨j, hj, rfl⟩ := List.getElem_of_mem hx
          rw [HJ.out.2 j hj (by have := HR.out.2; omega)]; rfl
        simp [firstI, this]
      go_wp2_with fail
      go_ret
      exact ⟨ret_int HE.out.symm, HJ.out.1⟩

end Go.Proofs.Ytlecpeofjabndaa
