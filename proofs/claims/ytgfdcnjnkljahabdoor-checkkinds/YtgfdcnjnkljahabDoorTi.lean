/-
  A directory with bytes, a file with too many.
-/
import Derived.Test.YtgfdcnjnkljahabDoorWg
import Derived.Test.YtgfdcnjnkljahabDoorBy
namespace Go.Proofs.YtgfdcnjnkljahabDoor
open Go.RowKit Go.Lib Go.Maps
set_option linter.unusedVariables false
set_option linter.unusedSimpArgs false

@[reducible] def Ski0 : Sta := ⟨[⟨1, true, [(⟨#[100]⟩, 2), (⟨#[102]⟩, 3), (⟨#[103]⟩, 3)], ⟨#[]⟩⟩, ⟨2, true, [(⟨#[104]⟩, 10)], ⟨#[120]⟩⟩, ⟨3, false, [], ⟨#[116, 104, 114, 101, 101]⟩⟩, ⟨10, false, [], ⟨#[]⟩⟩, ⟨11, false, [], ⟨#[111, 112, 101, 110]⟩⟩], [(1, 2, 11)], [3, 2]⟩
theorem ok_ki0 : okS Ski0 [⟨6, 2, ⟨#[]⟩⟩] = true := by kernel_rfl
theorem few_ki0 : Few Ski0 := few_of (by kernel_rfl)

/-- A text of 257 bytes. -/
def refT : ByteArray := ⟨(List.replicate 257 (0 : UInt8)).toArray⟩

@[reducible] def Ski (d : ByteArray) : Sta := ⟨[⟨1, true, [(⟨#[100]⟩, 2), (⟨#[102]⟩, 3), (⟨#[103]⟩, 3)], ⟨#[]⟩⟩, ⟨2, true, [(⟨#[104]⟩, 10)], ⟨#[]⟩⟩, ⟨3, false, [], d⟩, ⟨10, false, [], ⟨#[]⟩⟩, ⟨11, false, [], ⟨#[111, 112, 101, 110]⟩⟩], [(1, 2, 11)], [3, 2]⟩

theorem bad_ki (d : ByteArray) (hd : 256 < d.size) : badC ⟨3, false, [], d⟩ = badC ⟨3, false, [], refT⟩ := by
  have h : decide (256 < d.size) = true := by simp; omega
  have h2 : badC ⟨3, false, [], refT⟩ = true := by kernel_rfl
  rw [h2]
  show (false && _ || _ && _ || decide (256 < d.size)) = _
  rw [h]; simp

theorem inodes_ki (d : ByteArray) (hd : 256 < d.size) (T : List Fi) : inodesR (Ski d) T = inodesR (Ski refT) T := by
  have hp : placeG (Ski d) = placeG (Ski refT) := by kernel_rfl
  unfold inodesR
  rw [hp]
  generalize placeG (Ski refT) = g
  have hn : ∀ U, namesR g ⟨3, false, [], d⟩ U = namesR g ⟨3, false, [], refT⟩ U := fun U => by kernel_rfl
  have key : ∀ U, (if badC ⟨3, false, [], d⟩ then pushF U ⟨6, (⟨3, false, [], d⟩ : Ino).num, ⟨#[]⟩⟩ else U) = (if badC ⟨3, false, [], refT⟩ then pushF U ⟨6, (⟨3, false, [], refT⟩ : Ino).num, ⟨#[]⟩⟩ else U) := fun U => by rw [bad_ki d hd]
  show inodesL g [_, _, ⟨3, false, [], d⟩, _, _] T = inodesL g [_, _, ⟨3, false, [], refT⟩, _, _] T
  simp only [inodesL]
  rw [key, hn]

theorem heap_ki (d : ByteArray) (hd : 256 < d.size) : heapR (Ski d) = heapR (Ski refT) := by
  have h1 : numsR (Ski d) [] = numsR (Ski refT) [] := by kernel_rfl
  have h2 : ∀ U, holdsR (Ski d) U = holdsR (Ski refT) U := fun U => by kernel_rfl
  have h3 : ∀ U, madeR (Ski d) U = madeR (Ski refT) U := fun U => by kernel_rfl
  have h4 : ∀ U, openR (Ski d) U = openR (Ski refT) U := fun U => by kernel_rfl
  unfold heapR
  rw [h1, inodes_ki d hd, h2, h3, h4]

theorem few_ki (d : ByteArray) (hd : d.size ≤ 1000) : Few (Ski d) := by
  have F : Few (Ski ⟨#[]⟩) := few_of (by kernel_rfl)
  refine ⟨F.n1, F.n2, F.n3, fun x hx => ?_, fun x hx => ?_, fun x hx => ?_, F.w3, fun x hx => ?_, fun x hx => ?_⟩
  · simp only [List.mem_cons, List.not_mem_nil, or_false] at hx
    rcases hx with rfl | rfl | rfl | rfl | rfl
    · exact F.e1 (Ski ⟨#[]⟩).ino[0] (List.getElem_mem (by simp))
    · exact F.e1 (Ski ⟨#[]⟩).ino[1] (List.getElem_mem (by simp))
    · exact F.e1 (Ski ⟨#[]⟩).ino[2] (List.getElem_mem (by simp))
    · exact F.e1 (Ski ⟨#[]⟩).ino[3] (List.getElem_mem (by simp))
    · exact F.e1 (Ski ⟨#[]⟩).ino[4] (List.getElem_mem (by simp))
  · simp only [List.mem_cons, List.not_mem_nil, or_false] at hx
    rcases hx with rfl | rfl | rfl | rfl | rfl
    · exact F.w1 (Ski ⟨#[]⟩).ino[0] (List.getElem_mem (by simp))
    · exact F.w1 (Ski ⟨#[]⟩).ino[1] (List.getElem_mem (by simp))
    · exact F.w1 (Ski ⟨#[]⟩).ino[2] (List.getElem_mem (by simp))
    · exact F.w1 (Ski ⟨#[]⟩).ino[3] (List.getElem_mem (by simp))
    · exact F.w1 (Ski ⟨#[]⟩).ino[4] (List.getElem_mem (by simp))
  · simp only [List.mem_cons, List.not_mem_nil, or_false] at hx
    rcases hx with rfl | rfl | rfl | rfl | rfl
    · exact F.w2 (Ski ⟨#[]⟩).ino[0] (List.getElem_mem (by simp))
    · exact F.w2 (Ski ⟨#[]⟩).ino[1] (List.getElem_mem (by simp))
    · exact F.w2 (Ski ⟨#[]⟩).ino[2] (List.getElem_mem (by simp))
    · exact F.w2 (Ski ⟨#[]⟩).ino[3] (List.getElem_mem (by simp))
    · exact F.w2 (Ski ⟨#[]⟩).ino[4] (List.getElem_mem (by simp))
  · simp only [List.mem_cons, List.not_mem_nil, or_false] at hx
    rcases hx with rfl | rfl | rfl | rfl | rfl
    · exact F.s2 (Ski ⟨#[]⟩).ino[0] (List.getElem_mem (by simp))
    · exact F.s2 (Ski ⟨#[]⟩).ino[1] (List.getElem_mem (by simp))
    · exact F.s2 (Ski ⟨#[]⟩).ino[2] (List.getElem_mem (by simp))
    · exact F.s2 (Ski ⟨#[]⟩).ino[3] (List.getElem_mem (by simp))
    · exact F.s2 (Ski ⟨#[]⟩).ino[4] (List.getElem_mem (by simp))
  · simp only [List.mem_cons, List.not_mem_nil, or_false] at hx
    rcases hx with rfl | rfl | rfl | rfl | rfl
    · exact F.s1 (Ski ⟨#[]⟩).ino[0] (List.getElem_mem (by simp))
    · exact F.s1 (Ski ⟨#[]⟩).ino[1] (List.getElem_mem (by simp))
    · show d.size ≤ 100000; omega
    · exact F.s1 (Ski ⟨#[]⟩).ino[3] (List.getElem_mem (by simp))
    · exact F.s1 (Ski ⟨#[]⟩).ino[4] (List.getElem_mem (by simp))

theorem p_kinds {w : World} {p : Pl} (d : ByteArray) (hd : 256 < d.size) (hd2 : d.size ≤ 1000) (hs : Sv w p (Ski d)) (hT : Tab w) :
    Calls Tryd.prog 10 #[sval p (Ski d)] w (Finds w [⟨6, 3, ⟨#[]⟩⟩]) := by
  have hh := heap_ki d hd
  have he : heapR (Ski refT) = [⟨6, 3, ⟨#[]⟩⟩] := by kernel_rfl
  refine p_Check hs hT (few_ki d hd2) ?_ ?_ ?_
  · have h5 : foundL (Ski d) = foundL (Ski refT) := by kernel_rfl
    rw [h5]
    have h6 : (foundL (Ski refT)).length = 5 := by kernel_rfl
    exact h6
  · intro x hx
    rw [hh, he] at hx
    simp at hx
    subst hx
    show (⟨#[]⟩ : ByteArray).size ≤ 1000
    decide
  · unfold findR; rw [hh, he]; kernel_rfl

set_option maxRecDepth 100000 in
set_option maxHeartbeats 8000000 in
theorem kinds_any (a0 : Int) (w : World) (hT : Tab w) :
    Calls Tryd.prog 3 #[.int .i64 a0] w fun e w' => e = .returned (.bool true) ∧ Kept [] w w' := by
  have HT : Hid (Tab w) := hT
  clear hT
  go_enter Tryd.func3, Tryd.ntmps3
  go_wp2_with fail
  refine (awake_any w HT.out).mono ?_
  rintro e w1 ⟨rfl, k1⟩
  have HK1 : Hid (_) := k1
  clear k1
  go_wp2_with fail
  refine (r_whole _).mono ?_
  rintro e w2 ⟨N, rfl, h2⟩
  obtain ⟨V, X, HV, kv, b1⟩ := one_box w2 #[.slice (some ⟨N + 1 + 1 + 1 + 1, 0, none⟩) 5 5, .slice (some ⟨N + 1, 0, none⟩) 1 1, .slice (some ⟨N, 0, none⟩) 2 2] 27
  have HW : Hid (Wo w1 V N cm0 co0 ca0 cb0 (ci0 N)) := h2.same kv
  have HX : Hid (N + 1 + 1 + 1 + 1 < X) := by have := lt_of_heap h2.hi; have e : w2.heap.size = X := HV.out.2; show _ < _; omega
  have HBx : Hid (V.heap[X]? = some (.cells #[.slice (some ⟨N + 1 + 1 + 1 + 1, 0, none⟩) 5 5, .slice (some ⟨N + 1, 0, none⟩) 1 1, .slice (some ⟨N, 0, none⟩) 2 2] 27 (0, 0))) := b1
  have x0 : V.cell? ⟨X, 0, none⟩ = some (.slice (some ⟨N + 1 + 1 + 1 + 1, 0, none⟩) 5 5) := cellB b1
  have x1 : V.cell? ⟨X, 1, none⟩ = some (.slice (some ⟨N + 1, 0, none⟩) 1 1) := cellB b1
  have x2 : V.cell? ⟨X, 2, none⟩ = some (.slice (some ⟨N, 0, none⟩) 2 2) := cellB b1
  clear h2 kv b1
  go_upto_region 4 with fail
  rw [HV.out.1, HV.out.2]
  clear HV
  have hk : a0 % 2 = 0 ∨ a0 % 2 = 1 := by omega
  rcases hk with hk | hk
  · have hb : bits .and .i64 a0 1 = 0 := by rw [i64_and1, hk]
    have hbw : wrap64 (2 + bits .and .i64 a0 1) = 2 := by rw [hb]; kernel_rfl
    have hbe : ((0 : Int) == 0) = true := by rfl
    have w2' : wrap64 2 = 2 := by kernel_rfl
    have c1 : V.cell? ⟨N + 1 + 1 + 1 + 1, 7, none⟩ = some (.string ⟨#[]⟩) := by rw [cellB HW.out.hi]; rfl
    have f1 : V.frozen? ⟨N + 1 + 1 + 1 + 1, 7, none⟩ = false := by have := HW.out.hi; simp [World.frozen?, this]
    obtain ⟨W5, hW5⟩ : ∃ W5, V.setCell ⟨N + 1 + 1 + 1 + 1, 7, none⟩ (.string ⟨#[120]⟩) = W5 := ⟨_, rfl⟩
    have HW5 : Hid (Wo w1 W5 N cm0 co0 ca0 cb0 ((ci0 N).setIfInBounds 7 (.string ⟨#[120]⟩))) := by rw [← hW5]; exact HW.out.setI 7 (.string ⟨#[120]⟩)
    have HS5 : Hid (Sv W5 ⟨some ⟨N + 1 + 1 + 1 + 1, 0, none⟩, 5, some ⟨N + 1, 0, none⟩, 1, some ⟨N, 0, none⟩, 2⟩ Ski0) := wo_sv HW5.out few_ki0
    have hbx : W5.heap[X]? = some (.cells #[.slice (some ⟨N + 1 + 1 + 1 + 1, 0, none⟩) 5 5, .slice (some ⟨N + 1, 0, none⟩) 1 1, .slice (some ⟨N, 0, none⟩) 2 2] 27 (0, 0)) := by rw [← hW5]; exact far_set HBx.out (by have := HX.out; omega)
    have y0 : W5.cell? ⟨X, 0, none⟩ = some (.slice (some ⟨N + 1 + 1 + 1 + 1, 0, none⟩) 5 5) := cellB hbx
    have y1 : W5.cell? ⟨X, 1, none⟩ = some (.slice (some ⟨N + 1, 0, none⟩) 1 1) := cellB hbx
    have y2 : W5.cell? ⟨X, 2, none⟩ = some (.slice (some ⟨N, 0, none⟩) 2 2) := cellB hbx
    have HWe : Hid (_) := hW5
    have HKw : Hid (Kept [] w W5) := HK1.out.trans HW5.out.kept (by simp)
    clear hbx hW5
    go_upto_region 7 with fail
    (try rw [HWe.out])
    clear HWe x0 x1 x2 c1 f1
    go_wp2_with fail
    refine (p_Checks HS5.out (HT.out.kept HKw.out) ok_ki0).mono ?_
    rintro e w7 ⟨a7, c7, rfl, h7, k7⟩
    have HK7 : Hid (Kept [] w w7) := HKw.out.trans k7 (by simp)
    have HF7 : Hid (FiA w7 a7 [⟨6, 2, ⟨#[]⟩⟩]) := h7
    clear h7 k7 y0 y1 y2
    obtain ⟨V8, Z, HV8, kv8, b8⟩ := one_box w7 #[.int .i64 6, .int .i64 2, .string ⟨#[]⟩] 37
    have HSm : Hid (Calls Tryd.prog 9 #[.slice a7 1 c7, .slice (some ⟨Z, 0, none⟩) 1 1] V8 fun e w' => e = .returned (.bool true) ∧ Kept [] V8 w') := same_F (M := [⟨6, 2, ⟨#[]⟩⟩]) c7 1 (by simp) (HF7.out.kept kv8) (fia_of (M := [⟨6, 2, ⟨#[]⟩⟩]) b8)
    have HK8 : Hid (Kept [] w V8) := HK7.out.trans kv8 (by simp)
    clear kv8 b8 HF7 HK7
    go_wp2_with fail
    rw [HV8.out.1, HV8.out.2]
    refine Calls.mono HSm.out ?_
    rintro e w9 ⟨rfl, k9⟩
    have HK9 : Hid (Kept [] w w9) := HK8.out.trans k9 (by simp)
    clear k9 HSm HK8 HV8
    go_wp2_with fail
    go_ret
    exact ⟨rfl, HK9.out⟩
  · have hb : bits .and .i64 a0 1 = 1 := by rw [i64_and1, hk]
    have hbw : wrap64 (2 + bits .and .i64 a0 1) = 3 := by rw [hb]; kernel_rfl
    have hbe : ((1 : Int) == 0) = false := by rfl
    have w3' : wrap64 (2 + 1) = 3 := by kernel_rfl
    obtain ⟨n, hn⟩ : ∃ n : Nat, 257 + a0 % 8 = (n : Int) := ⟨(257 + a0 % 8).toNat, by omega⟩
    have hb7 : bits .and .i64 a0 7 = (n : Int) - 257 := by rw [i64_and7]; omega
    have hn1 : 256 < n := by omega
    have hn2 : n ≤ 1000 := by omega
    have hw7 : IntKind.i64.wrap (257 + bits .and .i64 a0 7) = (n : Int) := by rw [hb7, IntKind.wrap_i64]; omega
    have hw8 : IntKind.i64.wrap (257 + ((n : Int) - 257)) = (n : Int) := by rw [IntKind.wrap_i64]; omega
    have hw9 : wrap64 (257 + ((n : Int) - 257)) = (n : Int) := by unfold wrap64; omega
    have hw10 : IntKind.i64.wrap (n : Int) = (n : Int) := by rw [IntKind.wrap_i64]; omega
    clear hn
    have hB := Bs.made (Kept.refl [] V) n
    have hmk := fun W => make_bytes n (by omega) W
    have hcv := hB.conv n (by simp) n
    have hcv2 := (hB.turn ((Kept.refl [] _).drew)).conv n (by simp) n
    have hA : ((List.replicate n (0 : Int)).map (Value.int .u8)).toArray = Array.replicate n (Value.int .u8 0) := by simp
    rw [hA] at hcv hcv2
    simp only [hA] at hmk
    obtain ⟨d, hd⟩ : ∃ d, strOfNums (List.replicate n 0) = d := ⟨_, rfl⟩
    have hdz : d.size = n := by rw [← hd, strOfNums_size, List.length_replicate]
    rw [hd] at hcv hcv2
    obtain ⟨V4, hV4⟩ : ∃ V4, (V.alloc (.cells (Array.replicate n (Value.int .u8 0)) 5 (0, 0))) = V4 := ⟨_, rfl⟩
    have kv4 : Kept [] V V4 := by rw [← hV4]; exact (Kept.refl _ _).alloc _
    have HW4 : Hid (_) := HW.out.same kv4
    have hbx4 : V4.heap[X]? = some (.cells #[.slice (some ⟨N + 1 + 1 + 1 + 1, 0, none⟩) 5 5, .slice (some ⟨N + 1, 0, none⟩) 1 1, .slice (some ⟨N, 0, none⟩) 2 2] 27 (0, 0)) := by rw [kv4.block _ (lt_of_heap HBx.out) (by simp)]; exact HBx.out
    have HBx4 : Hid (_) := hbx4
    clear hbx4
    have c1 : V.cell? ⟨N + 1 + 1 + 1 + 1, 11, none⟩ = some (.string ⟨#[116, 104, 114, 101, 101]⟩) := by rw [cellB HW.out.hi]; rfl
    have f1 : V.frozen? ⟨N + 1 + 1 + 1 + 1, 11, none⟩ = false := by have := HW.out.hi; simp [World.frozen?, this]
    have x0' : (V.alloc (.cells (Array.replicate n (Value.int .u8 0)) 5 (0, 0))).cell? ⟨X, 0, none⟩ = some (.slice (some ⟨N + 1 + 1 + 1 + 1, 0, none⟩) 5 5) := by rw [hV4]; exact kv4.cell x0 (by simp)
    have c1' : (V.alloc (.cells (Array.replicate n (Value.int .u8 0)) 5 (0, 0))).cell? ⟨N + 1 + 1 + 1 + 1, 11, none⟩ = some (.string ⟨#[116, 104, 114, 101, 101]⟩) := by rw [hV4]; exact kv4.cell c1 (by simp)
    have f1' : (V.alloc (.cells (Array.replicate n (Value.int .u8 0)) 5 (0, 0))).frozen? ⟨N + 1 + 1 + 1 + 1, 11, none⟩ = false := by rw [hV4]; have := HW4.out.hi; simp [World.frozen?, this]
    have HV4 : Hid (_) := hV4
    have HDz : Hid (d.size = n) := hdz
    have hn3 : (0 : Int) ≤ (n : Int) := by omega
    clear hB kv4 hd hdz hV4 hA
    go_upto_region 6 with fail
    go_region
    rw [HV4.out]
    obtain ⟨W5, hW5⟩ : ∃ W5, (V4.setCell ⟨N + 1 + 1 + 1 + 1, 11, none⟩ (.string d)).drew = W5 := ⟨_, rfl⟩
    have HW5 : Hid (Wo w1 W5 N cm0 co0 ca0 cb0 ((ci0 N).setIfInBounds 11 (.string d))) := by rw [← hW5]; exact (HW4.out.setI 11 (.string d)).same ((Kept.refl _ _).drew)
    have HS5 : Hid (Sv W5 ⟨some ⟨N + 1 + 1 + 1 + 1, 0, none⟩, 5, some ⟨N + 1, 0, none⟩, 1, some ⟨N, 0, none⟩, 2⟩ (Ski d)) := wo_sv HW5.out (few_ki d (by rw [HDz.out]; exact hn2))
    have hbx : W5.heap[X]? = some (.cells #[.slice (some ⟨N + 1 + 1 + 1 + 1, 0, none⟩) 5 5, .slice (some ⟨N + 1, 0, none⟩) 1 1, .slice (some ⟨N, 0, none⟩) 2 2] 27 (0, 0)) := by rw [← hW5, ((Kept.refl [] _).drew).block _ (by simp; exact lt_of_heap HBx4.out) (by simp)]; exact far_set HBx4.out (by have := HX.out; omega)
    have y0 : W5.cell? ⟨X, 0, none⟩ = some (.slice (some ⟨N + 1 + 1 + 1 + 1, 0, none⟩) 5 5) := cellB hbx
    have y1 : W5.cell? ⟨X, 1, none⟩ = some (.slice (some ⟨N + 1, 0, none⟩) 1 1) := cellB hbx
    have y2 : W5.cell? ⟨X, 2, none⟩ = some (.slice (some ⟨N, 0, none⟩) 2 2) := cellB hbx
    have HKw : Hid (Kept [] w W5) := HK1.out.trans HW5.out.kept (by simp)
    have HP : Hid (Calls Tryd.prog 10 _ W5 (Finds W5 [⟨6, 3, ⟨#[]⟩⟩])) := p_kinds d (by rw [HDz.out]; exact hn1) (by rw [HDz.out]; exact hn2) HS5.out (HT.out.kept HKw.out)
    rw [hW5]
    clear hbx hW5 x0 x1 x2 x0' c1 c1' f1 f1' hmk hcv hcv2 HV4 hw7 hw8 hw9 hw10 hb7 HW4 HBx4 HS5
    go_wp2_with fail
    refine Calls.mono HP.out ?_
    rintro e w7 ⟨a7, c7, rfl, h7, k7⟩
    have HK7 : Hid (Kept [] w w7) := HKw.out.trans k7 (by simp)
    have HF7 : Hid (FiA w7 a7 [⟨6, 3, ⟨#[]⟩⟩]) := h7
    clear h7 k7 y0 y1 y2 HP
    obtain ⟨V8, Z, HV8, kv8, b8⟩ := one_box w7 #[.int .i64 6, .int .i64 3, .string ⟨#[]⟩] 37
    have HSm : Hid (Calls Tryd.prog 9 #[.slice a7 1 c7, .slice (some ⟨Z, 0, none⟩) 1 1] V8 fun e w' => e = .returned (.bool true) ∧ Kept [] V8 w') := same_F (M := [⟨6, 3, ⟨#[]⟩⟩]) c7 1 (by simp) (HF7.out.kept kv8) (fia_of (M := [⟨6, 3, ⟨#[]⟩⟩]) b8)
    have HK8 : Hid (Kept [] w V8) := HK7.out.trans kv8 (by simp)
    clear kv8 b8 HF7 HK7
    go_wp2_with fail
    rw [HV8.out.1, HV8.out.2]
    refine Calls.mono HSm.out ?_
    rintro e w9 ⟨rfl, k9⟩
    have HK9 : Hid (Kept [] w w9) := HK8.out.trans k9 (by simp)
    clear k9 HSm HK8 HV8
    go_wp2_with fail
    go_ret
    exact ⟨rfl, HK9.out⟩

end Go.Proofs.YtgfdcnjnkljahabDoor
