/-
  A state in which nothing is wrong.
-/
import Derived.Test.YtgfdcnjnkljahabDoorWg
namespace Go.Proofs.YtgfdcnjnkljahabDoor
open Go.RowKit Go.Lib Go.Maps
set_option linter.unusedVariables false
set_option linter.unusedSimpArgs false

@[reducible] def Swh (d : ByteArray) (f : Int) : Sta := ⟨[⟨1, true, [(⟨#[100]⟩, 2), (⟨#[102]⟩, 3), (⟨#[103]⟩, 3)], ⟨#[]⟩⟩, ⟨2, true, [(⟨#[104]⟩, 10)], ⟨#[]⟩⟩, ⟨3, false, [], d⟩, ⟨10, false, [], ⟨#[]⟩⟩, ⟨11, false, [], ⟨#[111, 112, 101, 110]⟩⟩], [(1, f, 11)], [3, 2]⟩

theorem bad_wh (d : ByteArray) (hd : d.size ≤ 256) : badC ⟨3, false, [], d⟩ = badC ⟨3, false, [], ⟨#[]⟩⟩ := by
  have h : decide (256 < d.size) = false := by simp; omega
  show (false && _ || _ && _ || decide (256 < d.size)) = _
  rw [h]; rfl

theorem inodes_wh (d : ByteArray) (f : Int) (hd : d.size ≤ 256) (T : List Fi) : inodesR (Swh d f) T = inodesR (Swh ⟨#[]⟩ f) T := by
  have hp : placeG (Swh d f) = placeG (Swh ⟨#[]⟩ f) := by kernel_rfl
  unfold inodesR
  rw [hp]
  generalize placeG (Swh ⟨#[]⟩ f) = g
  have hn : ∀ U, namesR g ⟨3, false, [], d⟩ U = namesR g ⟨3, false, [], ⟨#[]⟩⟩ U := fun U => by kernel_rfl
  have key : ∀ U, (if badC ⟨3, false, [], d⟩ then pushF U ⟨6, (⟨3, false, [], d⟩ : Ino).num, ⟨#[]⟩⟩ else U) = (if badC ⟨3, false, [], ⟨#[]⟩⟩ then pushF U ⟨6, (⟨3, false, [], ⟨#[]⟩⟩ : Ino).num, ⟨#[]⟩⟩ else U) := fun U => by rw [bad_wh d hd]
  show inodesL g [_, _, ⟨3, false, [], d⟩, _, _] T = inodesL g [_, _, ⟨3, false, [], ⟨#[]⟩⟩, _, _] T
  simp only [inodesL]
  rw [key, hn]

theorem heap_wh (d : ByteArray) (f : Int) (hd : d.size ≤ 256) : heapR (Swh d f) = heapR (Swh ⟨#[]⟩ f) := by
  have h1 : numsR (Swh d f) [] = numsR (Swh ⟨#[]⟩ f) [] := by kernel_rfl
  have h2 : ∀ U, holdsR (Swh d f) U = holdsR (Swh ⟨#[]⟩ f) U := fun U => by kernel_rfl
  have h3 : ∀ U, madeR (Swh d f) U = madeR (Swh ⟨#[]⟩ f) U := fun U => by kernel_rfl
  have h4 : ∀ U, openR (Swh d f) U = openR (Swh ⟨#[]⟩ f) U := fun U => by kernel_rfl
  unfold heapR
  rw [h1, inodes_wh d f hd, h2, h3, h4]

theorem few_wh (d : ByteArray) (f : Int) (hd : d.size ≤ 256) : Few (Swh d f) := by
  have F : Few (Swh ⟨#[]⟩ f) := few_of (by kernel_rfl)
  refine ⟨F.n1, F.n2, F.n3, fun x hx => ?_, fun x hx => ?_, fun x hx => ?_, F.w3, fun x hx => ?_, fun x hx => ?_⟩
  · simp only [List.mem_cons, List.not_mem_nil, or_false] at hx
    rcases hx with rfl | rfl | rfl | rfl | rfl
    · exact F.e1 (Swh ⟨#[]⟩ f).ino[0] (List.getElem_mem (by simp))
    · exact F.e1 (Swh ⟨#[]⟩ f).ino[1] (List.getElem_mem (by simp))
    · exact F.e1 (Swh ⟨#[]⟩ f).ino[2] (List.getElem_mem (by simp))
    · exact F.e1 (Swh ⟨#[]⟩ f).ino[3] (List.getElem_mem (by simp))
    · exact F.e1 (Swh ⟨#[]⟩ f).ino[4] (List.getElem_mem (by simp))
  · simp only [List.mem_cons, List.not_mem_nil, or_false] at hx
    rcases hx with rfl | rfl | rfl | rfl | rfl
    · exact F.w1 (Swh ⟨#[]⟩ f).ino[0] (List.getElem_mem (by simp))
    · exact F.w1 (Swh ⟨#[]⟩ f).ino[1] (List.getElem_mem (by simp))
    · exact F.w1 (Swh ⟨#[]⟩ f).ino[2] (List.getElem_mem (by simp))
    · exact F.w1 (Swh ⟨#[]⟩ f).ino[3] (List.getElem_mem (by simp))
    · exact F.w1 (Swh ⟨#[]⟩ f).ino[4] (List.getElem_mem (by simp))
  · simp only [List.mem_cons, List.not_mem_nil, or_false] at hx
    rcases hx with rfl | rfl | rfl | rfl | rfl
    · exact F.w2 (Swh ⟨#[]⟩ f).ino[0] (List.getElem_mem (by simp))
    · exact F.w2 (Swh ⟨#[]⟩ f).ino[1] (List.getElem_mem (by simp))
    · exact F.w2 (Swh ⟨#[]⟩ f).ino[2] (List.getElem_mem (by simp))
    · exact F.w2 (Swh ⟨#[]⟩ f).ino[3] (List.getElem_mem (by simp))
    · exact F.w2 (Swh ⟨#[]⟩ f).ino[4] (List.getElem_mem (by simp))
  · simp only [List.mem_cons, List.not_mem_nil, or_false] at hx
    rcases hx with rfl | rfl | rfl | rfl | rfl
    · exact F.s2 (Swh ⟨#[]⟩ f).ino[0] (List.getElem_mem (by simp))
    · exact F.s2 (Swh ⟨#[]⟩ f).ino[1] (List.getElem_mem (by simp))
    · exact F.s2 (Swh ⟨#[]⟩ f).ino[2] (List.getElem_mem (by simp))
    · exact F.s2 (Swh ⟨#[]⟩ f).ino[3] (List.getElem_mem (by simp))
    · exact F.s2 (Swh ⟨#[]⟩ f).ino[4] (List.getElem_mem (by simp))
  · simp only [List.mem_cons, List.not_mem_nil, or_false] at hx
    rcases hx with rfl | rfl | rfl | rfl | rfl
    · exact F.s1 (Swh ⟨#[]⟩ f).ino[0] (List.getElem_mem (by simp))
    · exact F.s1 (Swh ⟨#[]⟩ f).ino[1] (List.getElem_mem (by simp))
    · show d.size ≤ 100000; omega
    · exact F.s1 (Swh ⟨#[]⟩ f).ino[3] (List.getElem_mem (by simp))
    · exact F.s1 (Swh ⟨#[]⟩ f).ino[4] (List.getElem_mem (by simp))

theorem p_whole {w : World} {p : Pl} (d : ByteArray) (f : Int) (hd : d.size ≤ 256) (hf : f = 0 ∨ f = 1 ∨ f = 2 ∨ f = 3) (hs : Sv w p (Swh d f)) (hT : Tab w) :
    Calls Tryd.prog 10 #[sval p (Swh d f)] w (Finds w []) := by
  have hh := heap_wh d f hd
  have he : heapR (Swh ⟨#[]⟩ f) = [] := by
    rcases hf with e | e | e | e
    · rw [e]; kernel_rfl
    · rw [e]; kernel_rfl
    · rw [e]; kernel_rfl
    · rw [e]; kernel_rfl
  refine p_Check hs hT (few_wh d f hd) ?_ ?_ ?_
  · have h5 : foundL (Swh d f) = foundL (Swh ⟨#[]⟩ f) := by kernel_rfl
    rw [h5]
    have h6 : (foundL (Swh ⟨#[]⟩ f)).length = 5 := by
      rcases hf with e | e | e | e
      · rw [e]; kernel_rfl
      · rw [e]; kernel_rfl
      · rw [e]; kernel_rfl
      · rw [e]; kernel_rfl
    exact h6
  · intro x hx
    rw [hh, he] at hx; simp at hx
  · unfold findR; rw [hh, he]; rfl

set_option maxRecDepth 100000 in
set_option maxHeartbeats 8000000 in
theorem whole_any (a0 : ByteArray) (a1 : Int) (w : World) (hT : Tab w) (hz : a0.size ≤ 140737488351232) :
    Calls Tryd.prog 6 #[.string a0, .int .i64 a1] w fun e w' => e = .returned (.bool true) ∧ Kept [] w w' := by
  have HT : Hid (Tab w) := hT
  clear hT
  obtain ⟨d, hd⟩ : ∃ d, d = if 256 < a0.size then a0.extract 0 256 else a0 := ⟨_, rfl⟩
  have hdz : d.size ≤ 256 := by
    rw [hd]; split
    · simp [ByteArray.size_extract]; omega
    · omega
  have HD : Hid (_) := hd
  have HDz : Hid (_) := hdz
  clear hd hdz
  obtain ⟨f, hf⟩ : ∃ f, f = a1 % 4 := ⟨_, rfl⟩
  have hfb : bits .and .i64 a1 3 = f := by rw [i64_and3, hf]
  have HF4 : Hid (f = 0 ∨ f = 1 ∨ f = 2 ∨ f = 3) := by show _ ∨ _; omega
  clear hf
  go_enter Tryd.func6, Tryd.ntmps6
  go_wp2_with fail
  refine (awake_any w HT.out).mono ?_
  rintro e w1 ⟨rfl, k1⟩
  have HK1 : Hid (_) := k1
  clear k1
  go_wp2_with fail
  refine (r_whole _).mono ?_
  rintro e w2 ⟨N, rfl, h2⟩
  obtain ⟨V, X, HV, kv, b1⟩ := one_box w2 #[.slice (some ⟨N + 1 + 1 + 1 + 1, 0, none⟩) 5 5, .slice (some ⟨N + 1, 0, none⟩) 1 1, .slice (some ⟨N, 0, none⟩) 2 2] 27
  have HW : Hid (Wo w1 V N cm0 co0 ca0 cb0 (ci0 N)) := h2.same kv
  have HX : Hid (N + 1 + 1 + 1 + 1 < X) := by have := lt_of_heap h2.hi; have e : w2.heap.size = X := HV.out.2; show _ < _; omega
  have HBx : Hid (V.heap[X]? = some (.cells #[.slice (some ⟨N + 1 + 1 + 1 + 1, 0, none⟩) 5 5, .slice (some ⟨N + 1, 0, none⟩) 1 1, .slice (some ⟨N, 0, none⟩) 2 2] 27 (0, 0))) := b1
  have x0 : V.cell? ⟨X, 0, none⟩ = some (.slice (some ⟨N + 1 + 1 + 1 + 1, 0, none⟩) 5 5) := cellB b1
  have x1 : V.cell? ⟨X, 1, none⟩ = some (.slice (some ⟨N + 1, 0, none⟩) 1 1) := cellB b1
  have x2 : V.cell? ⟨X, 2, none⟩ = some (.slice (some ⟨N, 0, none⟩) 2 2) := cellB b1
  clear h2 kv b1
  go_upto_region 4 with fail
  rw [HV.out.1, HV.out.2]
  clear HV
  obtain ⟨W1, hW1⟩ : ∃ W1, V.setCell ⟨N + 1 + 1 + 1 + 1, 11, none⟩ (.string d) = W1 := ⟨_, rfl⟩
  have HW1 : Hid (Wo w1 W1 N cm0 co0 ca0 cb0 ((ci0 N).setIfInBounds 11 (.string d))) := by rw [← hW1]; exact HW.out.setI 11 (.string d)
  have hbx1 : W1.heap[X]? = some (.cells #[.slice (some ⟨N + 1 + 1 + 1 + 1, 0, none⟩) 5 5, .slice (some ⟨N + 1, 0, none⟩) 1 1, .slice (some ⟨N, 0, none⟩) 2 2] 27 (0, 0)) := by rw [← hW1]; exact far_set HBx.out (by have := HX.out; omega)
  have HBx1 : Hid (_) := hbx1
  have c1 : V.cell? ⟨N + 1 + 1 + 1 + 1, 11, none⟩ = some (.string ⟨#[116, 104, 114, 101, 101]⟩) := by rw [cellB HW.out.hi]; rfl
  have f1 : V.frozen? ⟨N + 1 + 1 + 1 + 1, 11, none⟩ = false := by have := HW.out.hi; simp [World.frozen?, this]
  clear hbx1
  go_upto_if 13 with fail
  go_cut [6] from 14 to 15 (fun vv wx => vv = .string d ∧ wx = V)
  case first =>
    by_cases h5 : 256 < a0.size
    · have HD2 : Hid (d = a0.extract 0 256) := by show _ = _; rw [HD.out, if_pos h5]
      have i5 : (256 : Int) < (a0.size : Int) := by omega
      have i6 : (256 : Int) ≤ (a0.size : Int) := by omega
      go_wp2_with fail
      go_meet
      case rel => exact ⟨by rw [HD2.out]; try rfl, rfl⟩
    · have HD2 : Hid (d = a0) := by show _ = _; rw [HD.out, if_neg h5]
      have i5 : ¬ (256 : Int) < (a0.size : Int) := by omega
      go_wp2_with fail
      go_meet
      case rel => exact ⟨by rw [HD2.out], rfl⟩
  case rest =>
    obtain ⟨rfl, hw⟩ := hcut
    have hw2 := hw.symm
    subst hw2
    clear hw
    go_upto_region 8 with fail
    (try rw [hW1])
    clear hW1 c1 f1 x0 x1 x2 HW
    have x1 : W1.cell? ⟨X, 1, none⟩ = some (.slice (some ⟨N + 1, 0, none⟩) 1 1) := cellB HBx1.out
    have c1 : W1.cell? ⟨N + 1, 1, none⟩ = some (.int .i64 2) := by rw [cellB HW1.out.ho]; rfl
    have f1 : W1.frozen? ⟨N + 1, 1, none⟩ = false := by have := HW1.out.ho; simp [World.frozen?, this]
    obtain ⟨W5, hW5⟩ : ∃ W5, W1.setCell ⟨N + 1, 1, none⟩ (.int .i64 f) = W5 := ⟨_, rfl⟩
    have HW5 : Hid (Wo w1 W5 N cm0 (co0.setIfInBounds 1 (.int .i64 f)) ca0 cb0 ((ci0 N).setIfInBounds 11 (.string d))) := by rw [← hW5]; exact HW1.out.setO 1 (.int .i64 f)
    have HS5 : Hid (Sv W5 ⟨some ⟨N + 1 + 1 + 1 + 1, 0, none⟩, 5, some ⟨N + 1, 0, none⟩, 1, some ⟨N, 0, none⟩, 2⟩ (Swh d f)) := wo_sv HW5.out (few_wh d f HDz.out)
    have hbx : W5.heap[X]? = some (.cells #[.slice (some ⟨N + 1 + 1 + 1 + 1, 0, none⟩) 5 5, .slice (some ⟨N + 1, 0, none⟩) 1 1, .slice (some ⟨N, 0, none⟩) 2 2] 27 (0, 0)) := by rw [← hW5]; exact far_set HBx1.out (by have := HX.out; omega)
    have y0 : W5.cell? ⟨X, 0, none⟩ = some (.slice (some ⟨N + 1 + 1 + 1 + 1, 0, none⟩) 5 5) := cellB hbx
    have y1 : W5.cell? ⟨X, 1, none⟩ = some (.slice (some ⟨N + 1, 0, none⟩) 1 1) := cellB hbx
    have y2 : W5.cell? ⟨X, 2, none⟩ = some (.slice (some ⟨N, 0, none⟩) 2 2) := cellB hbx
    have HKw : Hid (Kept [] w W5) := HK1.out.trans HW5.out.kept (by simp)
    clear hbx
    go_upto_region 9 with fail
    (try rw [hW5])
    clear hW5 x1 c1 f1 hfb
    go_wp2_with fail
    refine (p_whole d f HDz.out HF4.out HS5.out (HT.out.kept HKw.out)).mono ?_
    rintro e w7 ⟨a7, c7, rfl, -, k7⟩
    have HK7 : Hid (Kept [] w w7) := HKw.out.trans k7 (by simp)
    clear k7 y0 y1 y2
    go_wp2_with fail
    go_ret
    exact ⟨rfl, HK7.out⟩

end Go.Proofs.YtgfdcnjnkljahabDoor
