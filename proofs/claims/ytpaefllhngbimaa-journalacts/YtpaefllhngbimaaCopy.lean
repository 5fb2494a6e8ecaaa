/-
  Copy: another memory that is as this one is.
-/
import Derived.Test.YtpaefllhngbimaaNew
import Derived.Laws.Externs
namespace Go.Proofs.Ytpaefllhngbimaa
set_option maxRecDepth 10000
open Go.RowKit

theorem run_clone {P : Program} {w : World} {r : Nat} {es : Array MapEntry} {clock : Nat} (t : TypeId) (hb : w.heap[r]? = some (.map es clock)) :
    (Extern.MapsClone.clone #[.iface t (.map (some r))]).run P w = .ok (.iface t (.map (some w.heap.size))) (w.alloc (.map es clock)) := by
  obtain ⟨f, hf, hf2⟩ : ∃ f : Obj → Sem Value, Extern.MapsClone.clone #[.iface t (.map (some r))] = (getObj r >>= f) ∧ ∀ es c, f (.map es c) = (newObj (.map es c) >>= fun n => pure (.iface t (.map (some n)))) := ⟨_, rfl, fun _ _ => rfl⟩
  rw [hf]
  simp [MapKept.run_getObj_map hb, hf2, Result.andThen, go_sem]

theorem call45 {w : World} {r : Nat} {es : Array MapEntry} {c : Nat} (hr : w.heap[r]? = some (.map es c)) :
    (callFunc 59 #[.iface 53 (.map (some r))]).run Try.prog w = .ok (.value (.iface 53 (.map (some w.heap.size)))) (w.alloc (.map es c)) := by
  rw [run_callFunc_extern Try.func59 (by kernel_rfl) (by kernel_rfl) (by kernel_rfl) (e := Extern.MapsClone.clone) (by kernel_rfl), run_clone 53 hr]
  rfl

theorem assert55 (v : Value) (w : World) : (Instr.typeAssert (.iface 53 v) 20 53 false).run Try.prog w = .ok v w := by kernel_rfl

set_option maxHeartbeats 400000 in
theorem mapsClone_any {w : World} {mv : Value} {W : Wy} (h : WayIs w mv W) :
    Calls Try.prog 44 #[mv] w fun e w' => ∃ mv', e = .returned mv' ∧ WayIs w' mv' W ∧ Kept [] w w' ∧ ∀ k ∈ vb mv', w.heap.size ≤ k := by
  have hnil := fun (w : World) (r : Option Nat) => run_eql_map_nil (P := Try.prog) w 53 3 77 r Try.underlying53
  rcases h with ⟨h1, h2⟩ | ⟨r, es, c, h1, hr, hes, hn, hc⟩
  · subst h1
    go_enter Try.func44, Try.ntmps44
    go_wp2
    go_ret
    exact ⟨_, rfl, Or.inl ⟨rfl, h2⟩, Kept.refl _ _, by simp [vb]⟩
  · subst h1
    have hcl := call45 hr
    have has := assert55
    have HX : Hid (_ ∧ _ ∧ _) := ⟨hes, hn, hc⟩
    clear hes hn hc
    go_enter Try.func44, Try.ntmps44
    go_wp2
    go_ret
    exact ⟨_, rfl, Or.inr ⟨w.heap.size, es, c, rfl, Go.heap_alloc_new _ _, HX.out⟩, (Kept.refl _ _).alloc _, by simp [vb]⟩

set_option maxHeartbeats 400000 in
theorem copyFuse_any {w : World} {fv : Value} {n : Nat} {F : Option (Int ⊕ List Int)} (h : FuseIs w fv n F) (h0 : 0 < n) (h1 : n ≤ 65536) :
    Calls Try.prog 45 #[fv] w fun e w' => ∃ fv', e = .returned fv' ∧ FuseIs w' fv' n F ∧ Kept [] w w' ∧ ∀ k ∈ vb fv', w.heap.size ≤ k := by
  match F, h with
  | none, h =>
    simp only [FuseIs] at h
    subst h
    have ha := assert71_nil
    go_enter Try.func45, Try.ntmps45
    go_wp2
    go_ret
    exact ⟨_, rfl, rfl, (Kept.refl _ _).alloc _, by simp [vb]⟩
  | some (.inl k), h =>
    obtain ⟨rfl, h2⟩ := h
    have ha := assert71_burning
    go_enter Try.func45, Try.ntmps45
    go_wp2
    go_ret
    exact ⟨_, rfl, ⟨rfl, h2⟩, (Kept.refl _ _).alloc _, by simp [vb]⟩
  | some (.inr xs), h =>
    obtain ⟨f, zf, rfl, hf, hl⟩ := h
    have ha := assert71_burnt
    have hflt := lt_of_heap hf
    obtain ⟨W, hW⟩ : ∃ W, W = w.alloc (.cells #[.slice (some ⟨f, 0, none⟩) xs.length (xs.length + zf.length)] 104) := ⟨_, rfl⟩
    have hf2 : W.heap[f]? = some (.cells (row xs zf) 29 (0, 0)) := by rw [hW, Below.heap_alloc _ _ _ hflt]; exact hf
    have hKW : Kept [] w W := by rw [hW]; exact (Kept.refl _ _).alloc _
    have HX : Hid (_ ∧ _ ∧ _) := ⟨hf2, hKW, hl⟩
    clear hf hf2 hKW hl
    go_enter Try.func45, Try.ntmps45
    go_wp2_with fail
    rw [← hW]
    clear hW
    refine (clone_any W f _ xs zf _ rfl (by have := HX.out.2.2; omega) (by have := HX.out.2.2; omega) HX.out.1).mono ?_
    rintro e w1 ⟨g, zg, rfl, hg, ⟨ys, hys, hrow⟩, hK⟩
    have HY : Hid (_ ∧ _ ∧ _ ∧ _) := ⟨hg, hys, hrow, hK⟩
    clear hg hys hrow hK
    go_wp2
    go_ret
    obtain ⟨hg, hys, hrow, hK⟩ := HY.out
    obtain ⟨hf2, hKW, hl⟩ := HX.out
    refine ⟨_, rfl, ⟨g, ys, ?_, hrow, hl⟩, hKW.trans hK (by simp), ?_⟩
    · rw [hys]; rfl
    · intro k hk
      have : k = g := by simpa [vb] using hk
      have := hKW.size
      omega

theorem WayIs.one {w : World} {mv : Value} {W : Wy} (h : WayIs w mv W) : mv.cells = #[mv] := by
  rcases h with ⟨rfl, _⟩ | ⟨r, es, c, rfl, _⟩ <;> rfl

theorem FuseIs.one {w : World} {fv : Value} {n : Nat} {F : Option (Int ⊕ List Int)} (h : FuseIs w fv n F) : fv.cells = #[fv] := by
  match F, h with
  | none, h => simp only [FuseIs] at h; subst h; rfl
  | some (.inl k), h => obtain ⟨rfl, _⟩ := h; rfl
  | some (.inr xs), h => obtain ⟨f, zf, rfl, _⟩ := h; rfl

/-- The struct's six cells, in a world in which nothing of it has turned. -/
theorem copy_cells {w w' : World} {p : Pl} {M : Pm} (h : MemIs w p M) (hk : Kept [] w w') :
    w'.cell? ⟨p.b, 0, none⟩ = some (.slice (some ⟨p.bs, 0, none⟩) M.seen.length (M.seen.length + p.zs.length)) ∧ w'.cell? ⟨p.b, 1, none⟩ = some (.slice (some ⟨p.bl, 0, none⟩) M.seen.length (M.seen.length + p.zl.length)) ∧
      w'.cell? ⟨p.b, 2, none⟩ = some p.mv ∧ w'.cell? ⟨p.b, 3, none⟩ = some p.fv ∧ w'.cell? ⟨p.b, 4, none⟩ = some (.int .i64 M.steps) ∧ w'.cell? ⟨p.b, 5, none⟩ = some (.int .i64 M.stores) := by
  have h1 := h.kept0 hk
  exact ⟨by simpa using h1.cell 0, by simpa using h1.cell 1, by simpa using h1.cell 2, by simpa using h1.cell 3, by simpa using h1.cell 4, by simpa using h1.cell 5⟩

theorem cloneSeen {w W : World} {p : Pl} {M : Pm} (h : MemIs w p M) (hk : Kept [] w W) (c : Nat) :
    Calls Try.prog 43 #[.slice (some ⟨p.bs, 0, none⟩) M.seen.length c] W fun e w' => ∃ g zf, e = .returned (.slice (some ⟨g, 0, none⟩) M.seen.length (M.seen.length + zf)) ∧ Kept [] w w' ∧ Hid (W.heap.size ≤ g ∧ (∃ ys : List Value, ys.length = zf ∧ w'.heap[g]? = some (.cells (row M.seen ys) 29 (0, 0))) ∧ Kept [] W w') := by
  refine (clone_any W p.bs c M.seen p.zs _ rfl (by have := h.ok.lo; omega) h.ok.hi (h.kept0 hk).seen).mono ?_
  rintro e w1 ⟨g, zf, rfl, hg, hr, hK⟩
  exact ⟨g, zf, rfl, hk.trans hK (by simp), hg, hr, hK⟩

theorem cloneLasts {w W : World} {p : Pl} {M : Pm} (h : MemIs w p M) (hk : Kept [] w W) (c : Nat) :
    Calls Try.prog 43 #[.slice (some ⟨p.bl, 0, none⟩) M.seen.length c] W fun e w' => ∃ g zf, e = .returned (.slice (some ⟨g, 0, none⟩) M.seen.length (M.seen.length + zf)) ∧ Kept [] w w' ∧ Hid (W.heap.size ≤ g ∧ (∃ ys : List Value, ys.length = zf ∧ w'.heap[g]? = some (.cells (row M.lasts ys) 29 (0, 0))) ∧ Kept [] W w') := by
  refine (clone_any W p.bl c M.lasts p.zl _ h.ok.len (by have := h.ok.lo; omega) h.ok.hi (h.kept0 hk).lasts).mono ?_
  rintro e w1 ⟨g, zf, rfl, hg, hr, hK⟩
  exact ⟨g, zf, rfl, hk.trans hK (by simp), hg, hr, hK⟩

theorem cloneWay {w W : World} {p : Pl} {M : Pm} (h : MemIs w p M) (hk : Kept [] w W) :
    Calls Try.prog 44 #[p.mv] W fun e w' => ∃ o, e = .returned (.map o) ∧ Kept [] w w' ∧ Hid (WayIs w' (.map o) M.way ∧ (∀ k ∈ vb (.map o), W.heap.size ≤ k) ∧ Kept [] W w') := by
  refine (mapsClone_any (h.kept0 hk).way).mono ?_
  rintro e w1 ⟨mv, rfl, hw, hK, hg⟩
  obtain ⟨o, rfl⟩ : ∃ o, mv = .map o := by rcases hw with ⟨rfl, _⟩ | ⟨r, es, c, rfl, _⟩ <;> exact ⟨_, rfl⟩
  exact ⟨o, rfl, hk.trans hK (by simp), hw, hg, hK⟩

theorem cloneFuse0 {w W : World} {p : Pl} {M : Pm} (h : MemIs w p M) (hk : Kept [] w W) (hf : M.fuse = none) :
    Calls Try.prog 45 #[p.fv] W fun e w' => e = .returned .nilIface ∧ Kept [] w w' ∧ Hid (Kept [] W w') := by
  refine (copyFuse_any (h.kept0 hk).fuse (by have := h.ok.lo; omega) h.ok.hi).mono ?_
  rintro e w1 ⟨fv, rfl, hw, hK, hg⟩
  rw [hf] at hw
  simp only [FuseIs] at hw
  subst hw
  exact ⟨rfl, hk.trans hK (by simp), hK⟩

theorem cloneFuse1 {w W : World} {p : Pl} {M : Pm} (h : MemIs w p M) (hk : Kept [] w W) (hf : M.fuse ≠ none) :
    Calls Try.prog 45 #[p.fv] W fun e w' => ∃ t v, e = .returned (.iface t v) ∧ Kept [] w w' ∧ Hid (FuseIs w' (.iface t v) M.seen.length M.fuse ∧ (∀ k ∈ vb (.iface t v), W.heap.size ≤ k) ∧ Kept [] W w') := by
  refine (copyFuse_any (h.kept0 hk).fuse (by have := h.ok.lo; omega) h.ok.hi).mono ?_
  rintro e w1 ⟨fv, rfl, hw, hK, hg⟩
  obtain ⟨t, v, rfl⟩ : ∃ t v, fv = .iface t v := by
    revert hw
    rcases hF : M.fuse with _ | k | xs
    · exact absurd hF hf
    · rintro ⟨rfl, _⟩; exact ⟨_, _, rfl⟩
    · rintro ⟨f, zf, rfl, _⟩; exact ⟨_, _, rfl⟩
  exact ⟨t, v, rfl, hk.trans hK (by simp), hw, hg, hK⟩

/-- The copy, put together. -/
theorem copy_fin {w0 w1 w2 w3 w4 : World} {M : Pm} (hok : M.Ok) {g1 z1 g2 z2 : Nat} {o : Option Nat} {fv : Value}
    (h1 : w0.heap.size ≤ g1 ∧ (∃ ys : List Value, ys.length = z1 ∧ w1.heap[g1]? = some (.cells (row M.seen ys) 29 (0, 0))) ∧ Kept [] w0 w1)
    (h2 : w1.heap.size ≤ g2 ∧ (∃ ys : List Value, ys.length = z2 ∧ w2.heap[g2]? = some (.cells (row M.lasts ys) 29 (0, 0))) ∧ Kept [] w1 w2)
    (h3 : WayIs w3 (.map o) M.way ∧ (∀ k ∈ vb (.map o), w2.heap.size ≤ k) ∧ Kept [] w2 w3)
    (h4 : FuseIs w4 fv M.seen.length M.fuse ∧ (∀ k ∈ vb fv, w3.heap.size ≤ k) ∧ Kept [] w3 w4) :
    ∃ q : Pl, q.b = w4.heap.size ∧ (∀ k ∈ q.blocks, w0.heap.size ≤ k) ∧
      MemIs (w4.alloc (.cells #[.slice (some ⟨g1, 0, none⟩) M.seen.length (M.seen.length + z1), .slice (some ⟨g2, 0, none⟩) M.seen.length (M.seen.length + z2), .map o, fv, .int .i64 M.steps, .int .i64 M.stores] 56)) q M := by
  obtain ⟨a1, ⟨y1, b1, c1⟩, k1⟩ := h1
  obtain ⟨a2, ⟨y2, b2, c2⟩, k2⟩ := h2
  obtain ⟨c3, a3, k3⟩ := h3
  obtain ⟨c4, a4, k4⟩ := h4
  have l1 := lt_of_heap c1
  have l2 := lt_of_heap c2
  have l3 : ∀ k ∈ vb (.map o), k < w3.heap.size := c3.block
  have l4 : ∀ k ∈ vb fv, k < w4.heap.size := c4.block
  have s1 := k1.size
  have s2 := k2.size
  have s3 := k3.size
  have s4 := k4.size
  refine ⟨⟨w4.heap.size, g1, g2, y1, y2, .map o, fv⟩, rfl, ?_, ?_⟩
  · intro k hk
    rw [mem_blocks] at hk
    rcases hk with hk | hk | hk | hk | hk
    · simp only at hk; omega
    · simp only at hk; omega
    · simp only at hk; omega
    · have := a3 k hk; omega
    · have := a4 k hk; omega
  · have e : ∀ k, k < w4.heap.size → (w4.alloc (.cells #[.slice (some ⟨g1, 0, none⟩) M.seen.length (M.seen.length + z1), .slice (some ⟨g2, 0, none⟩) M.seen.length (M.seen.length + z2), .map o, fv, .int .i64 M.steps, .int .i64 M.stores] 56)).heap[k]? = w4.heap[k]? := fun k hk => Below.heap_alloc _ _ _ hk
    exact { ok := hok
            main := by rw [b1, b2]; exact Go.heap_alloc_new _ _
            seen := by rw [e g1 (by omega), k4.block g1 (by omega) (by simp), k3.block g1 (by omega) (by simp), k2.block g1 (by omega) (by simp)]; exact c1
            lasts := by rw [e g2 (by omega), k4.block g2 (by omega) (by simp), k3.block g2 (by omega) (by simp)]; exact c2
            way := c3.kept fun k hk => by have := l3 k hk; rw [e k (by omega), k4.block k (by omega) (by simp)]
            fuse := c4.kept fun k hk => e _ (l4 k hk)
            apart := by
              simp only [Pl.blocks, List.nodup_cons, List.mem_cons, List.mem_append, not_or, List.nodup_append]
              refine ⟨⟨by omega, by omega, fun h => ?_, fun h => ?_⟩, ⟨by omega, fun h => ?_, fun h => ?_⟩, ⟨fun h => ?_, fun h => ?_⟩, ?_, ?_, fun a ha b hb e2 => ?_⟩
              · have := l3 _ h; omega
              · have := l4 _ h; omega
              · have := a3 _ h; omega
              · have := a4 _ h; omega
              · have := a3 _ h; omega
              · have := a4 _ h; omega
              · cases o <;> simp [vb]
              · unfold vb; split
                · simp
                · split <;> simp
                · simp
              · have := l3 a ha; have := a4 b hb; omega }

set_option maxHeartbeats 4000000 in
theorem copy_none {w : World} {p : Pl} {M : Pm} (h : MemIs w p M) (hf : M.fuse = none) :
    Calls Try.prog 23 #[.pointer (some ⟨p.b, 0, none⟩)] w fun e w' => ∃ q, e = .returned (.pointer (some ⟨q.b, 0, none⟩)) ∧ Kept [] w w' ∧ (∀ k ∈ q.blocks, w.heap.size ≤ k) ∧ MemIs w' q M := by
  have HM : Hid (MemIs w p M) := h
  have HF : Hid (M.fuse = none) := hf
  have hKd : Kept [] w w.drew := (Kept.refl _ _).drew
  have hc := copy_cells h (Kept.refl _ _)
  clear h hf
  go_enter Try.func23, Try.ntmps23
  go_wp2
  go_region_held3 (fun w' => w'.cell? ⟨p.b, 0, none⟩ = some (.slice (some ⟨p.bs, 0, none⟩) M.seen.length (M.seen.length + p.zs.length)) ∧ w'.cell? ⟨p.b, 1, none⟩ = some (.slice (some ⟨p.bl, 0, none⟩) M.seen.length (M.seen.length + p.zl.length)) ∧
      w'.cell? ⟨p.b, 2, none⟩ = some p.mv ∧ w'.cell? ⟨p.b, 3, none⟩ = some p.fv ∧ w'.cell? ⟨p.b, 4, none⟩ = some (.int .i64 M.steps) ∧ w'.cell? ⟨p.b, 5, none⟩ = some (.int .i64 M.stores)) (first | exact copy_cells HM.out (by assumption) | go_keep)
    (first
      | (go_at_call_of 43 (Value.slice (some ⟨p.bs, 0, none⟩) M.seen.length (M.seen.length + p.zs.length)); refine (cloneSeen HM.out (by assumption) _).mono ?_; rintro e w1 ⟨g1, z1, rfl, hk1, hh1⟩)
      | (go_at_call_of 43 (Value.slice (some ⟨p.bl, 0, none⟩) M.seen.length (M.seen.length + p.zl.length)); refine (cloneLasts HM.out (by assumption) _).mono ?_; rintro e w2 ⟨g2, z2, rfl, hk2, hh2⟩)
      | (go_at_call 44; refine (cloneWay HM.out (by assumption)).mono ?_; rintro e w3 ⟨o3, rfl, hk3, hh3⟩)
      | (go_at_call 45; refine (cloneFuse0 HM.out (by assumption) HF.out).mono ?_; rintro e w4 ⟨rfl, hk4, hh4⟩))
  go_wp2
  go_ret
  obtain ⟨q, hb, hf, hm⟩ := copy_fin HM.out.ok hh1.out hh2.out hh3.out ⟨by rw [HF.out]; exact (rfl : Value.nilIface = Value.nilIface), by simp [vb], hh4.out⟩
  exact ⟨q, by rw [hb]; rfl, hk4.alloc _, hf, hm⟩

set_option maxHeartbeats 4000000 in
theorem copy_some {w : World} {p : Pl} {M : Pm} (h : MemIs w p M) (hf : M.fuse ≠ none) :
    Calls Try.prog 23 #[.pointer (some ⟨p.b, 0, none⟩)] w fun e w' => ∃ q, e = .returned (.pointer (some ⟨q.b, 0, none⟩)) ∧ Kept [] w w' ∧ (∀ k ∈ q.blocks, w.heap.size ≤ k) ∧ MemIs w' q M := by
  have HM : Hid (MemIs w p M) := h
  have HF : Hid (M.fuse ≠ none) := hf
  have hKd : Kept [] w w.drew := (Kept.refl _ _).drew
  have hc := copy_cells h (Kept.refl _ _)
  clear h hf
  go_enter Try.func23, Try.ntmps23
  go_wp2
  go_region_held3 (fun w' => w'.cell? ⟨p.b, 0, none⟩ = some (.slice (some ⟨p.bs, 0, none⟩) M.seen.length (M.seen.length + p.zs.length)) ∧ w'.cell? ⟨p.b, 1, none⟩ = some (.slice (some ⟨p.bl, 0, none⟩) M.seen.length (M.seen.length + p.zl.length)) ∧
      w'.cell? ⟨p.b, 2, none⟩ = some p.mv ∧ w'.cell? ⟨p.b, 3, none⟩ = some p.fv ∧ w'.cell? ⟨p.b, 4, none⟩ = some (.int .i64 M.steps) ∧ w'.cell? ⟨p.b, 5, none⟩ = some (.int .i64 M.stores)) (first | exact copy_cells HM.out (by assumption) | go_keep)
    (first
      | (go_at_call_of 43 (Value.slice (some ⟨p.bs, 0, none⟩) M.seen.length (M.seen.length + p.zs.length)); refine (cloneSeen HM.out (by assumption) _).mono ?_; rintro e w1 ⟨g1, z1, rfl, hk1, hh1⟩)
      | (go_at_call_of 43 (Value.slice (some ⟨p.bl, 0, none⟩) M.seen.length (M.seen.length + p.zl.length)); refine (cloneLasts HM.out (by assumption) _).mono ?_; rintro e w2 ⟨g2, z2, rfl, hk2, hh2⟩)
      | (go_at_call 44; refine (cloneWay HM.out (by assumption)).mono ?_; rintro e w3 ⟨o3, rfl, hk3, hh3⟩)
      | (go_at_call 45; refine (cloneFuse1 HM.out (by assumption) HF.out).mono ?_; rintro e w4 ⟨t4, v4, rfl, hk4, hh4⟩))
  go_wp2
  go_ret
  obtain ⟨q, hb, hf, hm⟩ := copy_fin HM.out.ok hh1.out hh2.out hh3.out hh4.out
  exact ⟨q, by rw [hb]; rfl, hk4.alloc _, hf, hm⟩

theorem copy_any {w : World} {p : Pl} {M : Pm} (h : MemIs w p M) :
    Calls Try.prog 23 #[.pointer (some ⟨p.b, 0, none⟩)] w fun e w' => ∃ q, e = .returned (.pointer (some ⟨q.b, 0, none⟩)) ∧ Kept [] w w' ∧ (∀ k ∈ q.blocks, w.heap.size ≤ k) ∧ MemIs w' q M := by
  by_cases hf : M.fuse = none
  · exact copy_none h hf
  · exact copy_some h hf

end Go.Proofs.Ytpaefllhngbimaa
