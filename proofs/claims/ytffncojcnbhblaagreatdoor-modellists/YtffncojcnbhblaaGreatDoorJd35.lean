/-
  Joined of my texts Yl Ym Yn.
-/
import Derived.Test.YtffncojcnbhblaaGreatDoorJd34
import Derived.Deep.CutRange
import Derived.Test.YtffncojcnbhblaaGreatDoorTk
set_option linter.unusedVariables false
set_option linter.unusedSimpArgs false
set_option maxRecDepth 100000
set_option maxHeartbeats 8000000
namespace Go.Proofs.YtffncojcnbhblaaGreatDoor
open Go.RowKit
theorem x4_kept {w w' : World} {X b i : Nat} {u0 u1 u2 u3 : Value} (h : w.cell? ⟨X, 0, none⟩ = some u0 ∧ w.cell? ⟨X, 1, none⟩ = some u1 ∧ w.cell? ⟨X, 2, none⟩ = some u2 ∧ w.cell? ⟨b, i, none⟩ = some u3) (k : Kept [] w w') : w'.cell? ⟨X, 0, none⟩ = some u0 ∧ w'.cell? ⟨X, 1, none⟩ = some u1 ∧ w'.cell? ⟨X, 2, none⟩ = some u2 ∧ w'.cell? ⟨b, i, none⟩ = some u3 :=
 ⟨k.cell h.1 (by simp), k.cell h.2.1 (by simp), k.cell h.2.2.1 (by simp), k.cell h.2.2.2 (by simp)⟩
theorem twoY (w : World) (c1 c2 : Array Value) (t1 t2 : TypeId) : ∃ W X, Hid ((w.alloc (.cells c1 t1 (0, 0))).alloc (.cells c2 t2 (0, 0)) = W ∧ w.heap.size = X) ∧ Hid (Kept [] w W) ∧ Hid (W.heap[X]? = some (.cells c1 t1 (0, 0)) ∧ W.heap[X + 1]? = some (.cells c2 t2 (0, 0)) ∧ W.heap.size = X + 1 + 1) := by
 have s1 : (w.alloc (.cells c1 t1 (0, 0))).heap.size = w.heap.size + 1 := by simp
 refine ⟨_, _, ⟨rfl, rfl⟩, ((Kept.refl [] w).alloc _).alloc _, ?_, ?_, by simp⟩
 ·
  rw [Below.heap_alloc _ _ _ (by omega)]
  exact Go.heap_alloc_new _ _
 ·
  have := Go.heap_alloc_new (w.alloc (.cells c1 t1 (0, 0))) (.cells c2 t2 (0, 0))
  rw [s1] at this
  exact this
theorem results_ctY {P : Program} {fn : Func} {p q : Tmp} {ty : TypeId} (h : fn.results = #[.cell p ty, .tmp q]) (tmps : Array Value) (w : World) (g : Nat) (t : TypeId) (cs : Array Value) (fr : Nat × Nat) (d : TypeDesc) (v : Value)
  (hp : tmps.getD p undef = .pointer (some ⟨g, 0, none⟩)) (hq : tmps.getD q undef = v) (hg : w.heap[g]? = some (.cells cs t fr))
  (hu : P.underlying ty = some d) (hd : (match d with | .struct _ | .array _ _ => true | _ => false) = true) (hi : (P.info? ty).map (·.size) = some cs.size) :
  (results fn tmps).run P w = .ok (.tuple #[.agg cs, v]) w := by
 have hp' : tmps[p]?.getD undef = .pointer (some ⟨g, 0, none⟩) := by simpa using hp
 have hq' : tmps[q]?.getD undef = v := by simpa using hq
 simp [results, h, hp', hq', asAddr, run_loadVar_row w g t ty cs fr d hg hu hd hi]
theorem r_opened {w0 w : World} {X g c1 c2 c3 : Nat} {a2 a3 : Option Addr} {ev : List Value} {L : List Ino} {M : List Int} (h : Hc w0 w X (.slice (some ⟨g, 0, none⟩) L.length c1) (.slice a2 0 c2) (.slice a3 M.length c3) ev ⟨L, [], M⟩) (hb : Bd ⟨L, [], M⟩) (hc : Clo L) (hz : ∀ x ∈ L, ∀ e ∈ x.ents, e.2 ≠ 0) (c : Cal) {num : Int} {k : Nat} (hf : findR L c.path = (num, 0)) (hat : atR L num = some k) (hk : k < L.length) (hd : (L[k]).dir = false) :
  Calls Tryz.prog 62 #[.pointer (some ⟨X, 0, none⟩), .agg #[.int .i64 c.kind, .int .i64 c.core, .int .i64 c.fd, .int .i64 c.off, .int .i64 c.num, .string c.path, .string c.path2, .string c.data], .int .i64 (-1)] w fun e w' => e = .returned (.tuple #[.agg #[.int .i64 0, .int .i64 0, .int .i64 0, .bool false, .string ⟨#[]⟩, .slice none 0 0], .bool true]) ∧ ∃ a2' c2', Hc w0 w' X (.slice (some ⟨g, 0, none⟩) L.length c1) (.slice a2' 1 c2') (.slice a3 M.length c3) ev ⟨L, [(c.core, 0, num)], M⟩ ∧ Kept [X] w w' := by
 obtain ⟨W1, Z, HW, HKW, HZb⟩ := twoY w #[.int .i64 c.kind, .int .i64 c.core, .int .i64 c.fd, .int .i64 c.off, .int .i64 c.num, .string c.path, .string c.path2, .string c.data] #[.int .i64 0, .int .i64 0, .int .i64 0, .bool false, .string ⟨#[]⟩, .slice none 0 0] 35 31
 have HXZ : Hid (X < Z ∧ w.heap.size = Z ∧ w0.heap.size ≤ Z + 1 ∧ Off [Z + 1] (.slice (some ⟨g, 0, none⟩) L.length c1) (.slice a2 0 c2) (.slice a3 M.length c3) ev) := by
  have h1 := lt_of_heap h.box
  have h2 := HW.out.2
  have h3 := h.k.size
  exact ⟨by omega, h2, by omega, off_of (h.os.lt (by omega))⟩
 have HH : Hid (_) := h.kept HKW.out
 obtain ⟨p, e1, e2, e3, hsv, -⟩ := HH.out.os.sv hb
 simp only [Value.slice.injEq, true_and, List.length_nil] at e1 e2 e3
 obtain ⟨pa1, pc1, pa2, pc2, pa3, pc3⟩ := p
 dsimp only at e1 e2 e3
 obtain ⟨rfl, rfl⟩ := e1
 obtain ⟨rfl, rfl⟩ := e2
 obtain ⟨rfl, rfl⟩ := e3
 have HFi : Hid (∀ W, Kept [] W1 W → Calls Tryz.prog 93 #[.agg #[.slice (some ⟨g, 0, none⟩) L.length c1, .slice a2 0 c2, .slice a3 M.length c3], .string c.path] W fun e w' => e = .returned (.tuple #[.int .i64 num, .int .i64 0]) ∧ Kept [] W w') := fun W kW => by
  have := r_find (hsv.kept kW) hc hz c.path
  rw [hf] at this
  exact this
 have HAt : Hid (∀ W, Kept [] W1 W → Calls Tryz.prog 94 #[.agg #[.slice (some ⟨g, 0, none⟩) L.length c1, .slice a2 0 c2, .slice a3 M.length c3], .int .i64 num] W fun e w' => e = .returned (.int .i64 (k : Int)) ∧ Kept [] W w') := fun W kW => by
  have := r_at (hsv.kept kW) num
  rw [hat] at this
  exact this
 have HFd : Hid (∀ W f, Kept [] W1 W → Calls Tryz.prog 95 #[.agg #[.slice (some ⟨g, 0, none⟩) L.length c1, .slice a2 0 c2, .slice a3 M.length c3], .int .i64 c.core, .int .i64 f] W fun e w' => e = .returned (.int .i64 0) ∧ Kept [] W w') := fun W f kW => r_fd (hsv.kept kW) c.core f
 obtain ⟨b', o', ae, ce, ha, -, q1, -⟩ := hsv.ino k hk
 simp only [Option.some.injEq, Addr.mk.injEq, and_true] at ha
 obtain ⟨rfl, rfl⟩ := ha
 have q1' : W1.cell? ⟨g, k * 4 + 1, none⟩ = some (.bool false) := by rw [Nat.zero_add] at q1; rw [q1]; exact congrArg _ (congrArg _ hd)
 have k0 : (0 : Int) ≤ (k : Int) := by omega
 have k1 : (k : Int) < (L.length : Int) := by omega
 have HC0 : Hid (W1.cell? ⟨X, 0, none⟩ = some (.slice (some ⟨g, 0, none⟩) L.length c1) ∧ W1.cell? ⟨X, 1, none⟩ = some (.slice a2 0 c2) ∧ W1.cell? ⟨X, 2, none⟩ = some (.slice a3 M.length c3) ∧ W1.cell? ⟨Z, 5, none⟩ = some (.string c.path)) := ⟨cellB HH.out.box, cellB HH.out.box, cellB HH.out.box, cellB HZb.out.1⟩
 have HC1 : Hid (W1.cell? ⟨X, 0, none⟩ = some (.slice (some ⟨g, 0, none⟩) L.length c1) ∧ W1.cell? ⟨X, 1, none⟩ = some (.slice a2 0 c2) ∧ W1.cell? ⟨X, 2, none⟩ = some (.slice a3 M.length c3) ∧ W1.cell? ⟨g, k * 4 + 1, none⟩ = some (.bool false)) := ⟨HC0.out.1, HC0.out.2.1, HC0.out.2.2.1, q1'⟩
 have HC2 : Hid (W1.cell? ⟨X, 0, none⟩ = some (.slice (some ⟨g, 0, none⟩) L.length c1) ∧ W1.cell? ⟨X, 1, none⟩ = some (.slice a2 0 c2) ∧ W1.cell? ⟨X, 2, none⟩ = some (.slice a3 M.length c3) ∧ W1.cell? ⟨Z, 1, none⟩ = some (.int .i64 c.core)) := ⟨HC0.out.1, HC0.out.2.1, HC0.out.2.2.1, cellB HZb.out.1⟩
 clear h hb hf hat hd q1 q1' hsv hc hz
 go_enter Tryz.func62, Tryz.ntmps62
 go_upto_region 1 with fail
 rw [HW.out.1, HW.out.2]
 clear HW
 have HD0 : Hid (_) := x4_kept HC0.out (Kept.refl [] W1).drew
 go_region_held3 (fun w' => w'.cell? ⟨X, 0, none⟩ = some (.slice (some ⟨g, 0, none⟩) L.length c1) ∧ w'.cell? ⟨X, 1, none⟩ = some (.slice a2 0 c2) ∧ w'.cell? ⟨X, 2, none⟩ = some (.slice a3 M.length c3) ∧ w'.cell? ⟨Z, 5, none⟩ = some (.string c.path)) (first | exact HD0.out | exact z4 | go_keep)
  (first
   | (go_at_call 93; refine (HFi.out _ (Kept.refl _ _).drew).mono ?_; rintro e w2 ⟨rfl, k2⟩; have z4 := x4_kept HD0.out k2))
 have HK2 : Hid (Kept [] W1 w2) := ((Kept.refl _ _).drew).trans k2 (by simp)
 clear z4 k2 HD0
 go_upto_region 2 with fail
 have HK2d : Hid (Kept [] W1 w2.drew) := HK2.out.trans (Kept.refl [] w2).drew (by simp)
 have HD1 : Hid (_) := x4_kept HC1.out HK2d.out
 go_region_held3 (fun w' => w'.cell? ⟨X, 0, none⟩ = some (.slice (some ⟨g, 0, none⟩) L.length c1) ∧ w'.cell? ⟨X, 1, none⟩ = some (.slice a2 0 c2) ∧ w'.cell? ⟨X, 2, none⟩ = some (.slice a3 M.length c3) ∧ w'.cell? ⟨g, k * 4 + 1, none⟩ = some (.bool false)) (first | exact HD1.out | exact z5 | go_keep)
  (first
   | (go_at_call 94; refine (HAt.out _ HK2d.out).mono ?_; rintro e w3 ⟨rfl, k3⟩; have z5 := x4_kept HD1.out k3))
 have HK3 : Hid (Kept [] W1 w3) := HK2d.out.trans k3 (by simp)
 clear z5 k3 HD1 HK2 HK2d
 go_wp2_with fail
 go_loopw [10, 11] (fun u i wr => ∃ (n : Nat) (m : Int), n ≤ 4 ∧ i = .int .i64 ((n : Int) - 1) ∧ u = .int .i64 m ∧ Hid ((n < 4 → m = (n : Int)) ∧ Kept [] W1 wr)) (fun _ i _ => (intOf i + 1).toNat)
 case atStart => exact ⟨4, -1, by omega, rfl, rfl, fun h => by omega, HK3.out⟩
 case round =>
  obtain ⟨n, m, hn, rfl, rfl, HJ0⟩ := hrel
  have HJ : Hid (Kept [] W1 wr) := HJ0.out.2
  by_cases hn0 : n = 0
  ·
   subst hn0
   have hm0 : m = 0 := HJ0.out.1 (by omega)
   subst hm0
   go_upto_region 16 with fail
   have HJd : Hid (Kept [] W1 wr.drew) := HJ.out.trans (Kept.refl [] wr).drew (by simp)
   have HD2 : Hid (_) := x4_kept HC2.out HJd.out
   go_region_held3 (fun w' => w'.cell? ⟨X, 0, none⟩ = some (.slice (some ⟨g, 0, none⟩) L.length c1) ∧ w'.cell? ⟨X, 1, none⟩ = some (.slice a2 0 c2) ∧ w'.cell? ⟨X, 2, none⟩ = some (.slice a3 M.length c3) ∧ w'.cell? ⟨Z, 1, none⟩ = some (.int .i64 c.core)) (first | exact HD2.out | exact z6 | go_keep)
    (first
     | (go_at_call 95; refine (HFd.out _ _ HJd.out).mono ?_; rintro e w4 ⟨rfl, k4⟩; have z6 := x4_kept HD2.out k4))
   have HK4 : Hid (Kept [] W1 w4) := HJd.out.trans k4 (by simp)
   have c1' := HK4.out.cell HC2.out.2.2.2 (by simp)
   clear z6 k4 HD2 HJ HJd HJ0
   have H4 : Hid (_) := HH.out.kept HK4.out
   go_wp2_with fail
   refine (r_grab H4.out ⟨_, _, _, rfl⟩ ⟨_, _, _, rfl⟩ c.core 0 num).mono ?_
   rintro e w5 ⟨rfl, a2', c2', h5, k5, hnb⟩
   have hZX : X ≠ Z + 1 := by have := HXZ.out.1; omega
   have hres : w5.heap[Z + 1]? = some (.cells #[.int .i64 0, .int .i64 0, .int .i64 0, .bool false, .string ⟨#[]⟩, .slice none 0 0] 31 (0, 0)) := by
    have h4 := (HK4.out.block _ (lt_of_heap HZb.out.2.1) (by simp)).trans HZb.out.2.1
    exact (k5.block _ (lt_of_heap h4) (by simpa using hZX.symm)).trans h4
   have h9 := blockY hres (.int .i64 0) (.int .i64 0) (.int .i64 0) (.bool false) (.string ⟨#[]⟩) (.slice none 0 0)
   have HF : Hid (Hc w0 (laidY w5 (Z + 1) (.int .i64 0) (.int .i64 0) (.int .i64 0) (.bool false) (.string ⟨#[]⟩) (.slice none 0 0)) X (.slice (some ⟨g, 0, none⟩) L.length c1) (.slice a2' 1 c2') (.slice a3 M.length c3) ev ⟨L, [(c.core, 0, num)], M⟩ ∧ Kept [X] w (laidY w5 (Z + 1) (.int .i64 0) (.int .i64 0) (.int .i64 0) (.bool false) (.string ⟨#[]⟩) (.slice none 0 0))) := by
    have hs4 := HK4.out.size
    have hs1 := HZb.out.2.2
    have hoz := HXZ.out.2.2.2 (Z + 1) (by simp)
    refine ⟨h5.laidY HXZ.out.2.2.1 hZX (off_of ⟨hoz.1, fun e => ?_, hoz.2.2.1, hoz.2.2.2⟩) _ _ _ _ _ _, ?_⟩
    ·
     have := hnb _ e
     omega
    ·
     refine keptY (((HKW.out.trans HK4.out (by simp)).mono (by simp)).trans k5 (fun x hx => Or.inl hx)) ?_ _ _ _ _ _ _
     have := HXZ.out.2.1
     omega
   obtain ⟨t0, t1, t2, t3, t4, t5⟩ := cz6 hres
   obtain ⟨f0, f1, f2, f3, f4, f5⟩ := fz6 hres
   obtain ⟨W9, hW9⟩ : ∃ W9, laidY w5 (Z + 1) (.int .i64 0) (.int .i64 0) (.int .i64 0) (.bool false) (.string ⟨#[]⟩) (.slice none 0 0) = W9 := ⟨_, rfl⟩
   rw [hW9] at HF h9
   have HW9 : Hid (_) := hW9
   clear hW9 hres h5 k5 hnb hZX H4 c1'
   go_wp2_with fail
   (try simp only [Exit.inBlock, Exit.then])
   unfold Go.Proofs.YtffncojcnbhblaaGreatDoor.laidY at HW9
   rw [HW9.out]
   refine bodyPost_ret (results_ctY rfl _ _ (Z + 1) 31 #[.int .i64 0, .int .i64 0, .int .i64 0, .bool false, .string ⟨#[]⟩, .slice none 0 0] (0, 0) _ _ rfl rfl h9 Tryz.underlying31 rfl (by kernel_rfl)) rfl ?_
   first
    | exact ⟨rfl, a2', c2', HF.out.1, HF.out.2⟩
    | exact ⟨rfl, ⟨a2', c2', HF.out.1⟩, HF.out.2⟩
  ·
   have i0 : (0 : Int) ≤ (n : Int) - 1 := by omega
   go_upto_region 10 with fail
   have HJd : Hid (Kept [] W1 wr.drew) := HJ.out.trans (Kept.refl [] wr).drew (by simp)
   have HD2 : Hid (_) := x4_kept HC2.out HJd.out
   go_region_held3 (fun w' => w'.cell? ⟨X, 0, none⟩ = some (.slice (some ⟨g, 0, none⟩) L.length c1) ∧ w'.cell? ⟨X, 1, none⟩ = some (.slice a2 0 c2) ∧ w'.cell? ⟨X, 2, none⟩ = some (.slice a3 M.length c3) ∧ w'.cell? ⟨Z, 1, none⟩ = some (.int .i64 c.core)) (first | exact HD2.out | exact z6 | go_keep)
    (first
     | (go_at_call 95; refine (HFd.out _ _ HJd.out).mono ?_; rintro e w4 ⟨rfl, k4⟩; have z6 := x4_kept HD2.out k4))
   have HK4 : Hid (Kept [] W1 w4) := HJd.out.trans k4 (by simp)
   clear z6 k4 HD2 HJ HJd
   go_wp2_with fail
   go_roundw
   case rel => exact ⟨n - 1, (n : Int) - 1, by omega, by go_num, rfl, fun h => by omega, HK4.out⟩
   case measure => simp [intOf]; omega
theorem r_fail (code : Int) (w : World) : Calls Tryz.prog 60 #[.int .i64 code] w fun e w' => e = .returned (.agg #[.int .i64 code, .int .i64 0, .int .i64 0, .bool false, .string ⟨#[]⟩, .slice none 0 0]) ∧ Kept [] w w' := by
 have HK : Hid (Kept [] w (w.alloc (.cells #[.int .i64 code, .int .i64 0, .int .i64 0, .bool false, .string ⟨#[]⟩, .slice none 0 0] 31 (0, 0)))) := (Kept.refl [] w).alloc _
 have HB : Hid (_) := Go.heap_alloc_new w (.cells #[.int .i64 code, .int .i64 0, .int .i64 0, .bool false, .string ⟨#[]⟩, .slice none 0 0] 31 (0, 0))
 go_enter Tryz.func60, Tryz.ntmps60
 go_wp2_with fail
 (try simp only [Exit.inBlock, Exit.then])
 refine bodyPost_ret (results_cell_row rfl _ _ w.heap.size 31 #[.int .i64 code, .int .i64 0, .int .i64 0, .bool false, .string ⟨#[]⟩, .slice none 0 0] (0, 0) _ rfl HB.out Tryz.underlying31 rfl (by kernel_rfl)) rfl ?_
 exact ⟨rfl, HK.out⟩
theorem r_link {w0 w : World} {X g c1 c2 c3 : Nat} {a2 a3 : Option Addr} {ev : List Value} {S : Sta} (h : Hc w0 w X (.slice (some ⟨g, 0, none⟩) S.ino.length c1) (.slice a2 S.opn.length c2) (.slice a3 S.made.length c3) ev S) (hb : Bd S) (hc : Clo S.ino) (hz : ∀ x ∈ S.ino, ∀ e ∈ x.ents, e.2 ≠ 0) (c : Cal) {num : Int} {f : Nat} (hf : findR S.ino c.path = (num, 0)) (hat : atR S.ino num = some f) (hfl : f < S.ino.length) (hd : (S.ino[f]).dir = false)
  {d : Int} {t : ByteArray} (hsp : spotR S.ino c.path2 = .ok (d, t)) {k : Nat} (hak : atR S.ino d = some k) (hk : k < S.ino.length) {E : List En} (hE : (S.ino[k]).ents = E) (ht : t.size ≤ 12) (hsz : ∀ e ∈ E, e.1.size ≤ 12 ∧ e.1.toList ≠ []) (hno : ∀ e ∈ E, e.1 ≠ t) (hen : entryR S.ino d t = 0) {bt : Nat} (hbt : bkt t = (bt : Int)) (hroom : ¬ 4 ≤ inB E bt) :
  Calls Tryz.prog 99 #[.pointer (some ⟨X, 0, none⟩), .agg #[.int .i64 c.kind, .int .i64 c.core, .int .i64 c.fd, .int .i64 c.off, .int .i64 c.num, .string c.path, .string c.path2, .string c.data]] w fun e w' => e = .returned (.agg #[.int .i64 0, .int .i64 0, .int .i64 0, .bool false, .string ⟨#[]⟩, .slice none 0 0]) ∧ ∃ ev', Hc w0 w' X (.slice (some ⟨g, 0, none⟩) S.ino.length c1) (.slice a2 S.opn.length c2) (.slice a3 S.made.length c3) ev' (setE S k hk (insR ltE E (t, num))) ∧ Kept [g] w w' := by
 obtain ⟨W1, Z, HW, HKW, HZb⟩ := twoY w #[.int .i64 c.kind, .int .i64 c.core, .int .i64 c.fd, .int .i64 c.off, .int .i64 c.num, .string c.path, .string c.path2, .string c.data] #[.int .i64 0, .int .i64 0, .int .i64 0, .bool false, .string ⟨#[]⟩, .slice none 0 0] 35 31
 have HXZ : Hid (X < Z ∧ w.heap.size = Z ∧ w0.heap.size ≤ Z + 1 ∧ g < Z ∧ Off [Z + 1] (.slice (some ⟨g, 0, none⟩) S.ino.length c1) (.slice a2 S.opn.length c2) (.slice a3 S.made.length c3) ev) := by
  have h1 := lt_of_heap h.box
  have h2 := HW.out.2
  have h3 := h.k.size
  have h4 := (h.os.ino.lt g rfl).2
  exact ⟨by omega, h2, by omega, by omega, off_of (h.os.lt (by omega))⟩
 have HH : Hid (_) := h.kept HKW.out
 have HPut : Hid (∀ W, Kept [] W1 W → Calls Tryz.prog 92 #[.pointer (some ⟨X, 0, none⟩), .int .i64 d, .string t, .int .i64 num] W fun e w' => e = .returned (.tuple #[]) ∧ ∃ ev', Hc w0 w' X (.slice (some ⟨g, 0, none⟩) S.ino.length c1) (.slice a2 S.opn.length c2) (.slice a3 S.made.length c3) ev' (setE S k hk (insR ltE E (t, num))) ∧ Kept [g] W w' ∧ ∀ Y, Y < W.heap.size → Off [Y] (.slice (some ⟨g, 0, none⟩) S.ino.length c1) (.slice a2 S.opn.length c2) (.slice a3 S.made.length c3) ev → Off [Y] (.slice (some ⟨g, 0, none⟩) S.ino.length c1) (.slice a2 S.opn.length c2) (.slice a3 S.made.length c3) ev') := fun W kW => r_put (HH.out.kept kW) hb hak hk hE t num ht (fun e he => (hsz e he).1) hno
 obtain ⟨p, e1, e2, e3, hsv, -⟩ := HH.out.os.sv hb
 simp only [Value.slice.injEq, true_and] at e1 e2 e3
 obtain ⟨pa1, pc1, pa2, pc2, pa3, pc3⟩ := p
 dsimp only at e1 e2 e3
 obtain ⟨rfl, rfl⟩ := e1
 obtain ⟨rfl, rfl⟩ := e2
 obtain ⟨rfl, rfl⟩ := e3
 have HFi : Hid (∀ W, Kept [] W1 W → Calls Tryz.prog 93 #[.agg #[.slice (some ⟨g, 0, none⟩) S.ino.length c1, .slice a2 S.opn.length c2, .slice a3 S.made.length c3], .string c.path] W fun e w' => e = .returned (.tuple #[.int .i64 num, .int .i64 0]) ∧ Kept [] W w') := fun W kW => by
  have := r_find (hsv.kept kW) hc hz c.path
  rw [hf] at this
  exact this
 have HAt : Hid (∀ W, Kept [] W1 W → Calls Tryz.prog 94 #[.agg #[.slice (some ⟨g, 0, none⟩) S.ino.length c1, .slice a2 S.opn.length c2, .slice a3 S.made.length c3], .int .i64 num] W fun e w' => e = .returned (.int .i64 (f : Int)) ∧ Kept [] W w') := fun W kW => by
  have := r_at (hsv.kept kW) num
  rw [hat] at this
  exact this
 have HPa : Hid (∀ W, Kept [] W1 W → Calls Tryz.prog 89 #[.agg #[.slice (some ⟨g, 0, none⟩) S.ino.length c1, .slice a2 S.opn.length c2, .slice a3 S.made.length c3], .string c.path2] W fun e w' => e = .returned (.tuple #[.int .i64 d, .string t, .int .i64 0]) ∧ Kept [] W w') := fun W kW => by
  exact r_parent (hsv.kept kW) hc hz c.path2 hsp
 have HEy : Hid (∀ W, Kept [] W1 W → Calls Tryz.prog 90 #[.agg #[.slice (some ⟨g, 0, none⟩) S.ino.length c1, .slice a2 S.opn.length c2, .slice a3 S.made.length c3], .int .i64 d, .string t] W fun e w' => e = .returned (.int .i64 0) ∧ Kept [] W w') := fun W kW => by
  have := r_entry (hsv.kept kW) d t
  rw [hen] at this
  exact this
 have HFu : Hid (∀ W, Kept [] W1 W → Calls Tryz.prog 91 #[.agg #[.slice (some ⟨g, 0, none⟩) S.ino.length c1, .slice a2 S.opn.length c2, .slice a3 S.made.length c3], .int .i64 d, .string t, .string ⟨#[]⟩] W fun e w' => e = .returned (.bool false) ∧ Kept [] W w') := fun W kW => by
  have := r_full (hsv.kept kW) hak (x := S.ino[k]) (List.getElem?_eq_getElem hk) t ht hbt (by rw [hE]; exact hsz)
  rw [hE, decide_eq_false hroom] at this
  exact this
 obtain ⟨b', o', ae, ce, ha, -, q1, -⟩ := hsv.ino f hfl
 simp only [Option.some.injEq, Addr.mk.injEq, and_true] at ha
 obtain ⟨rfl, rfl⟩ := ha
 have q1' : W1.cell? ⟨g, f * 4 + 1, none⟩ = some (.bool false) := by rw [Nat.zero_add] at q1; rw [q1]; exact congrArg _ (congrArg _ hd)
 have k0 : (0 : Int) ≤ (f : Int) := by omega
 have k1 : (f : Int) < (S.ino.length : Int) := by omega
 have HC0 : Hid (W1.cell? ⟨X, 0, none⟩ = some (.slice (some ⟨g, 0, none⟩) S.ino.length c1) ∧ W1.cell? ⟨X, 1, none⟩ = some (.slice a2 S.opn.length c2) ∧ W1.cell? ⟨X, 2, none⟩ = some (.slice a3 S.made.length c3) ∧ W1.cell? ⟨Z, 5, none⟩ = some (.string c.path)) := ⟨cellB HH.out.box, cellB HH.out.box, cellB HH.out.box, cellB HZb.out.1⟩
 have HC1 : Hid (W1.cell? ⟨X, 0, none⟩ = some (.slice (some ⟨g, 0, none⟩) S.ino.length c1) ∧ W1.cell? ⟨X, 1, none⟩ = some (.slice a2 S.opn.length c2) ∧ W1.cell? ⟨X, 2, none⟩ = some (.slice a3 S.made.length c3) ∧ W1.cell? ⟨g, f * 4 + 1, none⟩ = some (.bool false)) := ⟨HC0.out.1, HC0.out.2.1, HC0.out.2.2.1, q1'⟩
 have HC2 : Hid (W1.cell? ⟨X, 0, none⟩ = some (.slice (some ⟨g, 0, none⟩) S.ino.length c1) ∧ W1.cell? ⟨X, 1, none⟩ = some (.slice a2 S.opn.length c2) ∧ W1.cell? ⟨X, 2, none⟩ = some (.slice a3 S.made.length c3) ∧ W1.cell? ⟨Z, 6, none⟩ = some (.string c.path2)) := ⟨HC0.out.1, HC0.out.2.1, HC0.out.2.2.1, cellB HZb.out.1⟩
 have HKW1 : Hid (Kept [] W1 W1) := Kept.refl _ _
 clear h hb hf hat hd q1 q1' hsv hc hz hsp hak hE ht hsz hno hen hbt hroom
 go_enter Tryz.func99, Tryz.ntmps99
 go_upto_region 1 with fail
 rw [HW.out.1, HW.out.2]
 clear HW
 have HKd4 : Hid (Kept [] W1 W1.drew) := HKW1.out.trans (Kept.refl [] W1).drew (by simp)
 have HD4 : Hid (_) := x4_kept HC0.out HKd4.out
 go_region_held3 (fun w' => w'.cell? ⟨X, 0, none⟩ = some (.slice (some ⟨g, 0, none⟩) S.ino.length c1) ∧ w'.cell? ⟨X, 1, none⟩ = some (.slice a2 S.opn.length c2) ∧ w'.cell? ⟨X, 2, none⟩ = some (.slice a3 S.made.length c3) ∧ w'.cell? ⟨Z, 5, none⟩ = some (.string c.path)) (first | exact HD4.out | exact z4 | go_keep)
  (first
   | (go_at_call 93; refine (HFi.out _ HKd4.out).mono ?_; rintro e w2 ⟨rfl, k4⟩; have z4 := x4_kept HD4.out k4))
 have HKw2 : Hid (Kept [] W1 w2) := HKd4.out.trans k4 (by simp)
 clear z4 k4 HD4 HKd4
 go_upto_region 2 with fail
 have HKd5 : Hid (Kept [] W1 w2.drew) := HKw2.out.trans (Kept.refl [] w2).drew (by simp)
 have HD5 : Hid (_) := x4_kept HC1.out HKd5.out
 go_region_held3 (fun w' => w'.cell? ⟨X, 0, none⟩ = some (.slice (some ⟨g, 0, none⟩) S.ino.length c1) ∧ w'.cell? ⟨X, 1, none⟩ = some (.slice a2 S.opn.length c2) ∧ w'.cell? ⟨X, 2, none⟩ = some (.slice a3 S.made.length c3) ∧ w'.cell? ⟨g, f * 4 + 1, none⟩ = some (.bool false)) (first | exact HD5.out | exact z5 | go_keep)
  (first
   | (go_at_call 94; refine (HAt.out _ HKd5.out).mono ?_; rintro e w3 ⟨rfl, k5⟩; have z5 := x4_kept HD5.out k5))
 have HKw3 : Hid (Kept [] W1 w3) := HKd5.out.trans k5 (by simp)
 clear z5 k5 HD5 HKd5
 go_upto_region 6 with fail
 have HKd6 : Hid (Kept [] W1 w3.drew) := HKw3.out.trans (Kept.refl [] w3).drew (by simp)
 have HD6 : Hid (_) := x4_kept HC2.out HKd6.out
 go_region_held3 (fun w' => w'.cell? ⟨X, 0, none⟩ = some (.slice (some ⟨g, 0, none⟩) S.ino.length c1) ∧ w'.cell? ⟨X, 1, none⟩ = some (.slice a2 S.opn.length c2) ∧ w'.cell? ⟨X, 2, none⟩ = some (.slice a3 S.made.length c3) ∧ w'.cell? ⟨Z, 6, none⟩ = some (.string c.path2)) (first | exact HD6.out | exact z6 | go_keep)
  (first
   | (go_at_call 89; refine (HPa.out _ HKd6.out).mono ?_; rintro e w4 ⟨rfl, k6⟩; have z6 := x4_kept HD6.out k6))
 have HKw4 : Hid (Kept [] W1 w4) := HKd6.out.trans k6 (by simp)
 clear z6 k6 HD6 HKd6
 obtain ⟨x0, x1, x2, -⟩ := x4_kept HC2.out HKw4.out
 go_wp2_with fail
 refine (HEy.out _ HKw4.out).mono ?_
 rintro e w5 ⟨rfl, k5⟩
 have HKw5 : Hid (Kept [] W1 w5) := HKw4.out.trans k5 (by simp)
 clear x0 x1 x2 k5
 obtain ⟨x0, x1, x2, -⟩ := x4_kept HC2.out HKw5.out
 go_wp2_with fail
 refine (HFu.out _ HKw5.out).mono ?_
 rintro e w6 ⟨rfl, k6⟩
 have HKw6 : Hid (Kept [] W1 w6) := HKw5.out.trans k6 (by simp)
 clear x0 x1 x2 k6
 go_wp2_with fail
 refine (HPut.out _ HKw6.out).mono ?_
 rintro e w7 ⟨rfl, ev', h7, k7, ho7⟩
 go_wp2_with fail
 refine (r_fail 0 w7).mono ?_
 rintro e w8 ⟨rfl, k8⟩
 have h8 := h7.kept k8
 have hZX : X ≠ Z + 1 := by have := HXZ.out.1; omega
 have hZg : Z + 1 ≠ g := by have := HXZ.out.2.2.2.1; omega
 have hk78 : Kept [g] w6 w8 := k7.trans k8 (by simp)
 have hres : w8.heap[Z + 1]? = some (.cells #[.int .i64 0, .int .i64 0, .int .i64 0, .bool false, .string ⟨#[]⟩, .slice none 0 0] 31 (0, 0)) := by
  have h4 := (HKw6.out.block _ (lt_of_heap HZb.out.2.1) (by simp)).trans HZb.out.2.1
  exact (hk78.block _ (lt_of_heap h4) (by simpa using hZg)).trans h4
 have h9 := blockY hres (.int .i64 0) (.int .i64 0) (.int .i64 0) (.bool false) (.string ⟨#[]⟩) (.slice none 0 0)
 have HF : Hid (Hc w0 (laidY w8 (Z + 1) (.int .i64 0) (.int .i64 0) (.int .i64 0) (.bool false) (.string ⟨#[]⟩) (.slice none 0 0)) X (.slice (some ⟨g, 0, none⟩) S.ino.length c1) (.slice a2 S.opn.length c2) (.slice a3 S.made.length c3) ev' (setE S k hk (insR ltE E (t, num))) ∧ Kept [g] w (laidY w8 (Z + 1) (.int .i64 0) (.int .i64 0) (.int .i64 0) (.bool false) (.string ⟨#[]⟩) (.slice none 0 0))) := by
  have hs6 := HKw6.out.size
  have hs1 := HZb.out.2.2
  refine ⟨h8.laidY HXZ.out.2.2.1 hZX (ho7 _ (by omega) HXZ.out.2.2.2.2) _ _ _ _ _ _, ?_⟩
  refine keptY (((HKW.out.trans HKw6.out (by simp)).mono (by simp)).trans hk78 (fun x hx => Or.inl hx)) ?_ _ _ _ _ _ _
  have := HXZ.out.2.1
  omega
 obtain ⟨t0, t1, t2, t3, t4, t5⟩ := cz6 hres
 obtain ⟨f0, f1, f2, f3, f4, f5⟩ := fz6 hres
 obtain ⟨W9, hW9⟩ : ∃ W9, laidY w8 (Z + 1) (.int .i64 0) (.int .i64 0) (.int .i64 0) (.bool false) (.string ⟨#[]⟩) (.slice none 0 0) = W9 := ⟨_, rfl⟩
 rw [hW9] at HF h9
 have HW9 : Hid (_) := hW9
 clear hW9 hres h7 h8 k7 k8 hk78 ho7 hZX hZg
 go_wp2_with fail
 (try simp only [Exit.inBlock, Exit.then])
 unfold Go.Proofs.YtffncojcnbhblaaGreatDoor.laidY at HW9
 rw [HW9.out]
 refine bodyPost_ret (results_cell_row rfl _ _ (Z + 1) 31 #[.int .i64 0, .int .i64 0, .int .i64 0, .bool false, .string ⟨#[]⟩, .slice none 0 0] (0, 0) _ rfl h9 Tryz.underlying31 rfl (by kernel_rfl)) rfl ?_
 first
  | exact ⟨rfl, ev', HF.out.1, HF.out.2⟩
  | exact ⟨rfl, ⟨ev', HF.out.1⟩, HF.out.2⟩
theorem Hc.mad {w0 w : World} {X g3 c3 : Nat} {v1 v2 : Value} {ev : List Value} {S : Sta} (h : Hc w0 w X v1 v2 (.slice (some ⟨g3, 0, none⟩) S.made.length c3) ev S) {i : Nat} (z : Int) :
  Hc w0 (w.setCell ⟨g3, i, none⟩ (.int .i64 z)) X v1 v2 (.slice (some ⟨g3, 0, none⟩) S.made.length c3) ev ⟨S.ino, S.opn, S.made.set i z⟩ := by
 have hg := h.os.mad.lt g3 rfl
 have hgX : X ≠ g3 := fun e => (h.off X (by simp)).2.2.1 (by rw [e]; rfl)
 have kk : Kept [g3] w (w.setCell ⟨g3, i, none⟩ (.int .i64 z)) := kept_set
 have a1 : ∀ x ∈ [g3], v1.ownBlock ≠ some x := fun x hx e => by rw [List.mem_singleton] at hx; subst hx; exact h.os.a13 _ e rfl
 have a2 : ∀ x ∈ [g3], v2.ownBlock ≠ some x := fun x hx e => by rw [List.mem_singleton] at hx; subst hx; exact h.os.a23 _ e rfl
 have r := (h.os.mad.stored i (.int .i64 z)).1
 rw [← List.map_set (f := Value.int .i64)] at r
 refine ⟨by rw [block_other hgX]; exact h.box, ⟨row_keep h.os.ino kk a1, h.os.evl, fun j hj hv => row_keep (h.os.ent j hj hv) kk fun x hx e => ?_, row_keep h.os.opn kk a2, ?_, h.os.a12, h.os.a13, h.os.a23, h.os.ae, h.os.aee⟩, h.off, h.lo, h.k.setCell (Or.inr hg.1) _⟩
 ·
  rw [List.mem_singleton] at hx
  subst hx
  exact (h.os.ae _ (List.getElem_mem hv)).2.2 _ rfl e
 ·
  rw [List.length_set]
  exact r
theorem Hc.inos {w0 w w' : World} {X : Nat} {v1 v1' v2 v3 : Value} {ev : List Value} {S : Sta} {x : Ino} (hx : x.ents = []) (h : Hc w0 w X v1 v2 v3 ev S) (k : Kept [] w w') (r : w'.ownsRow w.heap.size 62 4 v1' (S.ino ++ [x]).length (inoC (S.ino ++ [x]) (ev ++ [.slice none 0 0]))) :
  Hc w0 (w'.setCell ⟨X, 0, none⟩ v1') X v1' v2 v3 (ev ++ [.slice none 0 0]) ⟨S.ino ++ [x], S.opn, S.made⟩ := by
 have h' := h.kept k
 have hnew : ∀ b, v1'.ownBlock = some b → w.heap.size ≤ b := fun b hb => (r.lt b hb).1
 have hX := lt_of_heap h.box
 have hk := h.k.size
 have kk : Kept [X] w' (w'.setCell ⟨X, 0, none⟩ v1') := kept_set
 have hoff1 : v1'.ownBlock ≠ some X := fun e => by have := hnew _ e; omega
 have o := h'.os.keep kk h'.off
 have old : ∀ v ∈ ev, ∀ b, v.ownBlock = some b → b < w.heap.size := fun v hv b hb => by
  obtain ⟨i, hi, rfl⟩ := List.getElem_of_mem hv
  exact ((h.os.ent i (by rw [← h.os.evl]; exact hi) hi).lt b hb).2
 refine ⟨by rw [block_set h'.box 0 v1']; rfl, ⟨row_keep (row_less r hk) kk (by simpa using hoff1), by simp [h.os.evl], fun i hi hv => ?_, o.opn, o.mad, fun b e1 e2 => ?_, fun b e1 e2 => ?_, o.a23, fun v hv => ?_, ?_⟩, off_of ⟨hoff1, (h.off X (by simp)).2.1, (h.off X (by simp)).2.2.1, fun v hv => ?_⟩, h.lo, h'.k.setCell (Or.inr h.lo) _⟩
 ·
  have hl := h.os.evl
  by_cases hi2 : i < S.ino.length
  ·
   have := o.ent i hi2 (by omega)
   rw [List.getElem_append_left (by omega), List.getElem_append_left hi2]
   exact this
  ·
   have : i = S.ino.length := by simp at hi; omega
   subst this
   rw [List.getElem_append_right (by omega), List.getElem_append_right (by omega)]
   simp only [hl, Nat.sub_self, List.getElem_cons_zero, hx]
   exact World.ownsRow_nil _ _ _ _
 · have := hnew b e1; have := (h.os.opn.lt b e2).2; omega
 · have := hnew b e1; have := (h.os.mad.lt b e2).2; omega
 ·
  rcases List.mem_append.1 hv with hv | hv
  · exact ⟨fun b e1 e2 => by have := hnew b e1; have := old v hv b e2; omega, (o.ae v hv).2⟩
  ·
   rw [List.mem_singleton] at hv
   subst hv
   exact ⟨fun b e1 e2 => (by cases e2), fun b e1 e2 => (by cases e2), fun b e1 e2 => (by cases e2)⟩
 ·
  rw [List.pairwise_append]
  exact ⟨o.aee, List.pairwise_singleton _ _, fun a ha b hb => by rw [List.mem_singleton] at hb; subst hb; exact fun z e1 e2 => by cases e2⟩
 ·
  rcases List.mem_append.1 hv with hv | hv
  · exact (h.off X (by simp)).2.2.2 v hv
  ·
   rw [List.mem_singleton] at hv
   subst hv
   intro e
   cases e
theorem ino_more {W w : World} {u : Value} {L : List Ino} {ev : List Value} (hev : ev.length = L.length) (h : w.ownsRow W.heap.size 62 4 u L.length (inoC L ev)) (k : Kept [] W w) (x : Ino) {ve : Value} (hve : ve.oneCell' = true) (hn : L.length + 1 ≤ 2513169434844) (ty : TypeId) :
  ∃ a c w', (Builtin.append_ #[23, 23] ty #[u, .slice (some ⟨w.heap.size, 0, none⟩) 1 1]).run Tryz.prog (w.alloc (.cells #[.int .i64 x.num, .bool x.dir, ve, .string x.data] 62)) = .ok (.slice a (L.length + 1) c) w' ∧ w'.ownsRow W.heap.size 62 4 (.slice a (L.length + 1) c) (L ++ [x]).length (inoC (L ++ [x]) (ev ++ [ve])) ∧ Kept [] W w' := by
 obtain ⟨i0, hi, hz0, hz1, hz2⟩ := info_parts info_Inode
 have kw : Kept [] w (w.alloc (.cells #[.int .i64 x.num, .bool x.dir, ve, .string x.data] 62)) := (Kept.refl [] w).alloc _
 have h2 := row_keep h kw (by simp)
 have hc : ∀ j v, ([.int .i64 x.num, .bool x.dir, ve, .string x.data] : List Value)[j]? = some v → (w.alloc (.cells #[.int .i64 x.num, .bool x.dir, ve, .string x.data] 62)).cell? ((⟨w.heap.size, 0, none⟩ : Addr).add j) = some v := fun j v hj => by
  rw [add_lit, Nat.zero_add, cell_new, ← hj]
  simp
 obtain ⟨g, cap, w', hr, r1, gr, hg, hgl⟩ := run_append_lies (P := Tryz.prog) (w := w.alloc (.cells #[.int .i64 x.num, .bool x.dir, ve, .string x.data] 62)) 23 ty W.heap.size 62 i0 _ 4 56 Tryz.underlying23 hi hz0 hz1 hz2 rfl (by omega) u L.length (inoC L ev) h2 ⟨w.heap.size, 0, none⟩ 1 1 _ rfl hc (by
  intro v hv
  simp only [List.mem_cons, List.not_mem_nil, or_false] at hv
  rcases hv with rfl | rfl | rfl | rfl
  · rfl
  · rfl
  · exact hve
  · rfl) (by omega) (by unfold maxLen; omega) (by omega) (by have := k.size; have := kw.size; omega) _ rfl
 refine ⟨_, _, w', hr, ?_, ?_⟩
 ·
  rw [List.length_append, inoC_append hev]
  exact r1
 ·
  refine (k.trans kw (by simp)).grown gr fun y hy => Or.inr ?_
  exact (h.lt y hy).1
end Go.Proofs.YtffncojcnbhblaaGreatDoor
