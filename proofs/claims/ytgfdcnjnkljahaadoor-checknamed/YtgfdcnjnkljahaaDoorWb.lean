/-
  What awake calls: New of one core, Copy of it, Image of no bytes.
-/
import Derived.Test.YtgfdcnjnkljahaaDoorWa
namespace Go.Proofs.YtgfdcnjnkljahaaDoor
open Go.RowKit Go.Lib Go.Maps
set_option linter.unusedVariables false
set_option linter.unusedSimpArgs false

theorem results_ct {P : Program} {fn : Func} {p q : Tmp} {ty : TypeId} (h : fn.results = #[.cell p ty, .tmp q]) (tmps : Array Value) (w : World) (g : Nat) (t : TypeId) (cs : Array Value) (fr : Nat × Nat) (d : TypeDesc) (v : Value)
    (hp : tmps.getD p undef = .pointer (some ⟨g, 0, none⟩)) (hq : tmps.getD q undef = v) (hg : w.heap[g]? = some (.cells cs t fr))
    (hu : P.underlying ty = some d) (hd : (match d with | .struct _ | .array _ _ => true | _ => false) = true) (hi : (P.info? ty).map (·.size) = some cs.size) :
    (results fn tmps).run P w = .ok (.tuple #[.agg cs, v]) w := by
  have hp' : tmps[p]?.getD undef = .pointer (some ⟨g, 0, none⟩) := by simpa using hp
  have hq' : tmps[q]?.getD undef = v := by simpa using hq
  simp [results, h, hp', hq', asAddr, run_loadVar_row w g t ty cs fr d hg hu hd hi]

/-- The root alone. -/
@[reducible] def rootI : Ino := ⟨1, true, [], ⟨#[]⟩⟩

theorem make_one (W : World) : (Instr.makeSlice 25 (.int .i64 1) (.int .i64 1)).run Tryd.prog W = .ok (.slice (some ⟨W.heap.size, 0, none⟩) 1 1) (W.alloc (.cells #[.int .i64 0] 3 (0, 0))) := by kernel_rfl

theorem three (w : World) (o1 o2 o3 : Obj) : Kept [] w (((w.alloc o1).alloc o2).alloc o3) ∧ (((w.alloc o1).alloc o2).alloc o3).heap[w.heap.size]? = some o1 ∧ (((w.alloc o1).alloc o2).alloc o3).heap[w.heap.size + 1]? = some o2 ∧ (((w.alloc o1).alloc o2).alloc o3).heap[w.heap.size + 1 + 1]? = some o3 := by
  refine ⟨(((Kept.refl [] w).alloc _).alloc _).alloc _, ?_, ?_, ?_⟩
  · rw [Below.heap_alloc _ _ _ (by simp; omega), Below.heap_alloc _ _ _ (by simp)]
    exact Go.heap_alloc_new _ _
  · rw [Below.heap_alloc _ _ _ (by simp)]
    have := Go.heap_alloc_new (w.alloc o1) o2
    simpa using this
  · have := Go.heap_alloc_new ((w.alloc o1).alloc o2) o3
    simpa using this

/-- New of one core is answered. -/
def New1 (w : World) (e : Ending) (w' : World) : Prop :=
  ∃ I M, e = .returned (.tuple #[.agg #[.slice (some ⟨I, 0, none⟩) 1 1, .slice none 0 0, .slice (some ⟨M, 0, none⟩) 1 1], .int .i64 0]) ∧ w'.heap[I]? = some (.cells #[.int .i64 1, .bool true, .slice none 0 0, .string ⟨#[]⟩] 31 (0, 0)) ∧ w'.heap[M]? = some (.cells #[.int .i64 0] 3 (0, 0)) ∧ Kept [] w w'

set_option maxRecDepth 100000 in
set_option maxHeartbeats 4000000 in
theorem r_New1 (w : World) : Calls Tryd.prog 14 #[.int .i64 1] w (New1 w) := by
  have hmk := make_one
  go_enter Tryd.func14, Tryd.ntmps14
  go_wp2_with fail
  obtain ⟨h0, h1, h2, h3⟩ := three w (.cells #[.slice (some ⟨w.heap.size + 1, 0, none⟩) 1 1, .slice none 0 0, .slice (some ⟨w.heap.size + 1 + 1, 0, none⟩) 1 1] 27 (0, 0)) (.cells #[.int .i64 1, .bool true, .slice none 0 0, .string ⟨#[]⟩] 31 (0, 0)) (.cells #[.int .i64 0] 3 (0, 0))
  (try simp only [Exit.inBlock, Exit.then])
  refine bodyPost_ret (results_ct rfl _ _ w.heap.size 27 _ (0, 0) _ (.int .i64 0) rfl rfl h1 Tryd.underlying27 rfl (by kernel_rfl)) rfl ?_
  exact ⟨_, _, rfl, h2, h3, h0⟩

set_option maxRecDepth 100000 in
set_option maxHeartbeats 4000000 in
theorem r_Image0 (w : World) : Calls Tryd.prog 16 #[.string ⟨#[]⟩] w fun e w' => (∃ v, e = .returned (.tuple #[v, .int .i64 1900])) ∧ Kept [] w w' := by
  have HR : Hid (∀ W, Calls Tryd.prog 25 #[.string ⟨#[]⟩] W fun e w' => e = .returned (.tuple #[.agg #[.slice none 0 0, .slice none 0 0, .slice none 0 0], .int .i64 1900]) ∧ Kept [] W w') := by
    intro W
    go_enter Tryd.func25, Tryd.ntmps25
    go_wp2_with fail
    (try simp only [Exit.inBlock, Exit.then])
    refine bodyPost_ret (results_ct rfl _ _ W.heap.size 27 #[.slice none 0 0, .slice none 0 0, .slice none 0 0] (0, 0) _ (.int .i64 1900) rfl rfl (Go.heap_alloc_new _ _) Tryd.underlying27 rfl (by kernel_rfl)) rfl ?_
    exact ⟨rfl, (Kept.refl _ _).alloc _⟩
  go_enter Tryd.func16, Tryd.ntmps16
  go_wp2_with fail
  refine (HR.out _).mono ?_
  rintro e w1 ⟨rfl, k1⟩
  have HK : Hid (_) := k1
  clear k1
  go_wp2_with fail
  go_ret2
  exact ⟨⟨_, rfl⟩, HK.out.alloc _⟩

theorem info_Inode : (Tryd.prog.info? 31).map (fun i => (i.zero, i.size, i.bytes)) = some (some (.agg #[.int .i64 0, .bool false, .slice none 0 0, .string ⟨#[]⟩]), 4, 56) := by kernel_rfl

theorem info_int : (Tryd.prog.info? 3).map (fun i => (i.zero, i.size, i.bytes)) = some (some (.int .i64 0), 1, 8) := by kernel_rfl

theorem app_none (W : World) : (Builtin.append_ #[24, 24] 24 #[.slice none 0 0, .slice none 0 0]).run Tryd.prog W = .ok (.slice none 0 0) W := by kernel_rfl

theorem app_empty (b : Nat) (W : World) : (Builtin.append_ #[29, 29] 29 #[.slice (some ⟨b, 0, none⟩) 0 0, .slice none 0 0]).run Tryd.prog W = .ok (.slice (some ⟨b, 0, none⟩) 0 0) W := by kernel_rfl

theorem app_ino1 {w : World} {b : Nat} {x : Ino} {a : Option Addr} {c : Nat} (hb : w.heap[b]? = some (.cells #[.int .i64 x.num, .bool x.dir, .slice a x.ents.length c, .string x.data] 31 (0, 0))) :
    ∃ g cap cur w', (Builtin.append_ #[23, 23] 23 #[.slice none 0 0, .slice (some ⟨b, 0, none⟩) 1 1]).run Tryd.prog w = .ok (.slice (some ⟨g, 0, none⟩) 1 cap) w' ∧ w'.heap[g]? = some (.cells cur 31 (0, 0)) ∧ cur.toList.take 4 = [.int .i64 x.num, .bool x.dir, .slice a x.ents.length c, .string x.data] ∧ Kept [] w w' ∧ w.heap.size ≤ g ∧ 1 ≤ cap := by
  obtain ⟨i0, hi, hz0, hz1, hz2⟩ := info_parts info_Inode
  obtain ⟨g, cap, w', hr, h2, h3, h4, h5⟩ := run_append_lies (P := Tryd.prog) w 23 23 w.heap.size 31 i0 _ 4 56 Tryd.underlying23 hi hz0 hz1 hz2 rfl (by omega) (.slice none 0 0) 0 [] (World.ownsRow_nil _ _ _ _) ⟨b, 0, none⟩ 1 1 [.int .i64 x.num, .bool x.dir, .slice a x.ents.length c, .string x.data] rfl
    (fun j u hu => by
      rw [add_lit, Nat.zero_add, cellB hb]
      simpa using hu)
    (by intro u hu; simp at hu; rcases hu with rfl | rfl | rfl | rfl <;> rfl) (by omega) (by unfold maxLen; omega) (by omega) (Nat.le_refl _) w.heap.size rfl
  obtain ⟨-, h2⟩ := h2
  rcases h2 with ⟨h6, -⟩ | ⟨g', cap', cur, e, h7, h8, h9, h10, h11, h12⟩
  · cases h6
  · injection e with e1 e2 e3
    injection e1 with e1
    injection e1 with e1
    subst e1 e3
    exact ⟨g, cap, cur, w', hr, h8, by simpa using h12, (Kept.refl [] w).grown h3 (fun k e => by cases e), h7, h9⟩

theorem app_int1 {w : World} {b : Nat} {x : Int} (hb : w.heap[b]? = some (.cells #[.int .i64 x] 3 (0, 0))) :
    ∃ g cap cur w', (Builtin.append_ #[25, 25] 25 #[.slice none 0 0, .slice (some ⟨b, 0, none⟩) 1 1]).run Tryd.prog w = .ok (.slice (some ⟨g, 0, none⟩) 1 cap) w' ∧ w'.heap[g]? = some (.cells cur 3 (0, 0)) ∧ cur.toList.take 1 = [.int .i64 x] ∧ Kept [] w w' ∧ w.heap.size ≤ g ∧ 1 ≤ cap := by
  obtain ⟨i0, hi, hz0, hz1, hz2⟩ := info_parts info_int
  obtain ⟨g, cap, w', hr, h2, h3, h4, h5⟩ := run_append_lies (P := Tryd.prog) w 25 25 w.heap.size 3 i0 _ 1 8 Tryd.underlying25 hi hz0 hz1 hz2 rfl (by omega) (.slice none 0 0) 0 [] (World.ownsRow_nil _ _ _ _) ⟨b, 0, none⟩ 1 1 [.int .i64 x] rfl
    (fun j u hu => by
      rw [add_lit, Nat.zero_add, cellB hb]
      simpa using hu)
    (by intro u hu; simp at hu; rcases hu with rfl; rfl) (by omega) (by unfold maxLen; omega) (by omega) (Nat.le_refl _) w.heap.size rfl
  obtain ⟨-, h2⟩ := h2
  rcases h2 with ⟨h6, -⟩ | ⟨g', cap', cur, e, h7, h8, h9, h10, h11, h12⟩
  · cases h6
  · injection e with e1 e2 e3
    injection e1 with e1
    injection e1 with e1
    subst e1 e3
    exact ⟨g, cap, cur, w', hr, h8, by simpa using h12, (Kept.refl [] w).grown h3 (fun k e => by cases e), h7, h9⟩

end Go.Proofs.YtgfdcnjnkljahaaDoor
