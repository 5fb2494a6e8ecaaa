/-
  Joined of my texts Sz.
-/
import Derived.Test.YtmeafancgmkfkaaGreatDoorJk21
namespace Go.Proofs.YtmeafancgmkfkaaGreatDoor
open Go.RowKit
set_option linter.unusedVariables false
set_option linter.unusedSimpArgs false
theorem run_copy_str {P : Program} (w : World) (dT sT ty elem : TypeId) (g o dLen dCap : Nat) (s : ByteArray) (cur : Array Value) (t : TypeId)
   (hu : P.underlying dT = some (.slice elem)) (hs : (P.info? elem).map (·.size) = some 1) (hg : w.heap[g]? = some (.cells cur t (0, 0))) (hfit : o + Nat.min s.size dLen ≤ cur.size) :
   (Builtin.copy_ #[dT, sT] ty #[.slice (some ⟨g, o, none⟩) dLen dCap, .string s]).run P w =
     .ok (goInt (Nat.min s.size dLen)) (w.setRow g (cur.toList.take o ++ (s.data.toList.map fun b => Value.int .u8 (b.toNat : Int)).take (Nat.min s.size dLen) ++ cur.toList.drop (o + Nat.min s.size dLen)).toArray) := by
 have hsz : s.data.toList.length = s.size := by simp
 have hlen : ((s.data.toList.map fun b => Value.int .u8 (b.toNat : Int)).take (Nat.min s.size dLen)).length = Nat.min s.size dLen := by
   rw [List.length_take, List.length_map, hsz]
   exact Nat.min_eq_left (Nat.min_le_left _ _)
 have hst := run_storeCells_at P g o t ((s.data.toList.map fun b => Value.int .u8 (b.toNat : Int)).take (Nat.min s.size dLen)) 0 cur w hg (by rw [hlen]; simpa using hfit) (fun v hv => by
   obtain ⟨b, -, rfl⟩ := List.mem_map.1 (List.mem_of_mem_take hv)
   rfl)
 rw [hlen] at hst
 simp only [Nat.add_zero] at hst
 cases hq : P.info? elem with
 | none => simp [hq] at hs
 | some i =>
   have h1 : i.size = 1 := by simpa [hq] using hs
   simp [Builtin.copy_, run_underlying hu, Builtin.lenOf, Builtin.firstCells, sizeOf, typeInfo, hq, h1]
   rw [hst]
   simp [Result.andThen]
def byI (s : ByteArray) : List Int := s.data.toList.map fun b => (b.toNat : Int)
def sizedL (s : ByteArray) (k : Nat) : List Int := (byI s).take k ++ List.replicate (k - s.size) 0
theorem byI_length (s : ByteArray) : (byI s).length = s.size := by simp [byI]
theorem sizedL_length (s : ByteArray) (k : Nat) : (sizedL s k).length = k := by
 unfold sizedL
 rw [List.length_append, List.length_take, byI_length, List.length_replicate]
 omega
theorem sz5 : (Tryz.prog.info? 5).map (·.size) = some 1 := by kernel_rfl
theorem Bs.setRow {w0 W : World} {B : Nat} {xs : List Int} (h : Bs w0 W B xs) (ys : List Int) : Bs w0 (W.setRow B (ys.map (Value.int .u8)).toArray) B ys :=
 ⟨h.kept.setRow (Or.inr h.new) _, h.new, setRow_heap W B _ _ _ _ h.here⟩
set_option maxRecDepth 100000 in
set_option maxHeartbeats 8000000 in
theorem p_sized (s : ByteArray) (n : Nat) (hn : n ≤ 140737488351232) (w : World) :
   Calls Tryz.prog 110 #[.string s, .int .i64 (n : Int)] w fun e w' => ∃ G, e = .returned (.slice (some ⟨G, 0, none⟩) n n) ∧ Bs w w' G (sizedL s n) := by
 have hmk := make_bytes n hn
 obtain ⟨W1, hW1⟩ : ∃ W1, w.alloc (.cells ((List.replicate n (0 : Int)).map (Value.int .u8)).toArray 5) = W1 := ⟨_, rfl⟩
 have hmk1 := hmk w
 rw [hW1] at hmk1
 have hB := Bs.made (Kept.refl [] w) n
 rw [hW1] at hB
 have hcp := run_copy_str (P := Tryz.prog) W1 48 9 3 5 w.heap.size 0 n n s _ 5 Tryz.underlying48 sz5 hB.here (by simp; exact Nat.min_le_right _ _)
 have e1 : (((List.replicate n (0 : Int)).map (Value.int .u8)).toArray.toList.take 0 ++ (s.data.toList.map fun b => Value.int .u8 (b.toNat : Int)).take (Nat.min s.size n) ++ ((List.replicate n (0 : Int)).map (Value.int .u8)).toArray.toList.drop (0 + Nat.min s.size n)) = (sizedL s n).map (Value.int .u8) := by
   unfold sizedL byI
   rw [List.map_append, List.map_take, List.map_map, List.take_zero, List.nil_append]
   congr 1
   · have : (s.data.toList.map fun b => Value.int .u8 (b.toNat : Int)).length = s.size := by simp
     rw [show Nat.min s.size n = min s.size n from rfl, ← this, Nat.min_comm, ← List.take_take]
     rw [List.take_length]
     rfl
   · simp only [List.map_replicate, Nat.zero_add, List.drop_replicate]
     congr 1
     show n - min s.size n = n - s.size
     omega
 rw [e1] at hcp
 have hB2 := hB.setRow (sizedL s n)
 obtain ⟨W2, hW2⟩ : ∃ W2, W1.setRow w.heap.size ((sizedL s n).map (Value.int .u8)).toArray = W2 := ⟨_, rfl⟩
 rw [hW2] at hcp hB2
 have HB : Hid (_) := hB2
 have hgi : goInt (Nat.min s.size n) = .int .i64 ((Nat.min s.size n : Nat) : Int) := rfl
 rw [hgi] at hcp
 have hn63 : n ≤ 9223372036854775807 := by omega
 clear hW1 hW2 hB hB2 hmk e1 hgi
 go_enter Tryz.func110, Tryz.ntmps110
 go_wp2_with fail
 go_ret
 exact ⟨_, rfl, HB.out⟩
@[reducible] def withD (x : Ino) (d : ByteArray) : Ino := { x with data := d }
@[reducible] def setD (S : Sta) (k : Nat) (hk : k < S.ino.length) (d : ByteArray) : Sta := ⟨S.ino.set k (withD (S.ino[k]) d), S.opn, S.made⟩
theorem inoC_setD : ∀ {L : List Ino} {vs : List Value} {k : Nat} {x : Ino} (hk : k < L.length), vs.length = L.length → x.num = (L[k]).num → x.dir = (L[k]).dir → inoC (L.set k x) vs = (inoC L vs).set (k * 4 + 3) (.string x.data)
 | y :: l, u :: vs, 0, x, _, _, h1, h2 => by
   simp only [List.getElem_cons_zero] at h1 h2
   simp [inoC, h1, h2]
 | y :: l, u :: vs, k + 1, x, hk, hl, h1, h2 => by
   have := inoC_setD (L := l) (vs := vs) (k := k) (x := x) (by simpa using hk) (by simpa using hl) (by simpa using h1) (by simpa using h2)
   have e : (k + 1) * 4 + 3 = k * 4 + 3 + 1 + 1 + 1 + 1 := by omega
   rw [e]
   simp only [List.set_cons_succ, inoC, this]
 | y :: l, [], _, _, _, h, _, _ => by simp at h
theorem Os.setDat {w : World} {H : Nat} {v1 v2 v3 : Value} {ev : List Value} {S : Sta} (h : Os w H v1 v2 v3 ev S) {k : Nat} (hk : k < S.ino.length) {g c1 : Nat} (hv1 : v1 = .slice (some ⟨g, 0, none⟩) S.ino.length c1) (d : ByteArray) :
   Os (w.setCell ⟨g, k * 4 + 3, none⟩ (.string d)) H v1 v2 v3 ev (setD S k hk d) := by
 have hg : v1.ownBlock = some g := by rw [hv1]; rfl
 have sB : Kept [g] w (w.setCell ⟨g, k * 4 + 3, none⟩ (.string d)) := kept_set
 have no : ∀ {u : Value}, Ap v1 u → ∀ y ∈ [g], u.ownBlock ≠ some y := fun hu y hy e => by
   rw [List.mem_singleton] at hy
   subst hy
   exact hu y hg e
 refine ⟨?_, by simp [h.evl], ?_, row_keep h.opn sB (no h.a12), row_keep h.mad sB (no h.a13), h.a12, h.a13, h.a23, h.ae, h.aee⟩
 · have r1 := h.ino
   subst hv1
   have := (r1.stored (k * 4 + 3) (.string d)).1
   rw [← inoC_setD hk h.evl (x := withD (S.ino[k]) d) rfl rfl] at this
   simpa using this
 · intro i hi hv
   have hi' : i < S.ino.length := by simpa using hi
   have e1 : ((S.ino.set k (withD (S.ino[k]) d))[i]'hi).ents = (S.ino[i]).ents := by
     by_cases e : i = k
     · subst e; simp
     · rw [List.getElem_set_ne (by omega)]
   have := row_keep (h.ent i hi' hv) sB (no (h.ae _ (List.getElem_mem hv)).1)
   show World.ownsRow _ H 66 2 ev[i] ((S.ino.set k (withD (S.ino[k]) d))[i]'hi).ents.length (flat ((S.ino.set k (withD (S.ino[k]) d))[i]'hi).ents)
   rw [e1]
   exact this
theorem Bd.setDat {S : Sta} (h : Bd S) {k : Nat} (hk : k < S.ino.length) {d : ByteArray} (hd : d.size ≤ 140737488351232) : Bd (setD S k hk d) := by
 have mem : ∀ y ∈ S.ino.set k (withD (S.ino[k]) d), (∃ x ∈ S.ino, y.num = x.num ∧ y.ents = x.ents) ∧ (y ∈ S.ino ∨ y.data = d) := fun y hy => by
   rcases List.mem_or_eq_of_mem_set hy with h1 | h1
   · exact ⟨⟨y, h1, rfl, rfl⟩, Or.inl h1⟩
   · subst h1
     exact ⟨⟨_, List.getElem_mem hk, rfl, rfl⟩, Or.inr rfl⟩
 refine ⟨by simpa using h.n1, h.n2, h.n3, fun y hy => ?_, fun y hy => ?_, fun y hy => ?_, fun y hy => ?_⟩
 · obtain ⟨⟨x, hx, -, e⟩, -⟩ := mem y hy
   rw [e]; exact h.n4 x hx
 · obtain ⟨⟨x, hx, e, -⟩, -⟩ := mem y hy
   rw [e]; exact h.w1 x hx
 · rcases (mem y hy).2 with h1 | h1
   · exact h.d1 y h1
   · rw [h1]; exact hd
 · obtain ⟨⟨x, hx, -, e⟩, -⟩ := mem y hy
   rw [e]; exact h.e1 x hx
theorem Cb.setDat {w0 w : World} {B : Nat} {c : Cal} {pk v1 v2 v3 : Value} {ev : List Value} {S : Sta} (h : Cb w0 w B c pk v1 v2 v3 ev S) {k : Nat} (hk : k < S.ino.length) {g c1 : Nat} (hv1 : v1 = .slice (some ⟨g, 0, none⟩) S.ino.length c1) {d : ByteArray} (hd : d.size ≤ 140737488351232) :
   Cb w0 (w.setCell ⟨g, k * 4 + 3, none⟩ (.string d)) B c pk v1 v2 v3 ev (setD S k hk d) := by
 have hg : v1.ownBlock = some g := by rw [hv1]; rfl
 have hBg : B ≠ g := fun e => (h.off B (by simp)).1 (by rw [hg, e])
 exact ⟨h.k.setCell (Or.inr (h.os.ino.lt g hg).1) _, by rw [block_other hBg]; exact h.box, h.os.setDat hk hv1 d, h.off, h.lo, h.tab, h.bd.setDat hk hd⟩
theorem FrB.ino {B : Nat} {w : World} {v1 v2 v3 : Value} {ev : List Value} {g i n c : Nat} (hv : v1 = .slice (some ⟨g, 0, none⟩) n c) (v : Value) : FrB B w (w.setCell ⟨g, i, none⟩ v) v1 v2 v3 ev v1 v2 v3 ev :=
 ⟨(kept_set (w := w) (B := g) (i := i) (v := v)).size, fun Z hZ _ ho => ⟨block_other (fun e => (ho Z (by simp)).1 (by rw [hv, e]; rfl)), ho⟩⟩
end Go.Proofs.YtmeafancgmkfkaaGreatDoor
