/-
  Joined of my texts Ox Laid.
-/
import Derived.Test.YtmeafancgmkfkaaGreatDoorJo11
import Derived.Test.YtmeafancgmkfkaaGreatDoorJo14
import Derived.SliceStrings
import Derived.OpenShut
import Derived.SizedLaws
import Derived.Deep.Slices
import Derived.Test.YtmeafancgmkfkaaGreatDoorJo3
import Derived.ProofKit
import Derived.LaidMore
import Derived.Lay
import Derived.Stop.Joined
namespace Go.Proofs.YtmeafancgmkfkaaGreatDoor
open Go.RowKit Go.ChangeShapes Go.WideShapes
set_option linter.unusedVariables false
set_option linter.unusedSimpArgs false
theorem weigh_all {H : Type} {P : Program} {e : TypeId} {d : DataW H} {n : Nat} (hn : n ∈ d.weights P e) : ∀ {l : List (DataW H)}, d ∈ l → n ∈ DataW.weightsAll P e l
 | [], h => by cases h
 | x :: l, h => by
   rw [DataW.weightsAll, List.mem_append]
   rcases List.mem_cons.1 h with rfl | h
   · exact Or.inl hn
   · exact Or.inr (weigh_all hn h)
theorem slice_open {H : Type} {enc : TypeId × Value → H} {P : Program} {w : World} {base : Nat} {spare : Nat → Bool} {held : Bool} {fuel : Nat} {t e : TypeId} {v : Value} {x : DataW H × List MemPlace} (ht : P.underlying t = some (.slice e)) (hce : 0 < P.cellsOf e)
   (h : DataW.trod enc P w base spare held fuel t [v] = some x) (hw : ∀ n ∈ x.1.weights P t, n ≤ reachBytes) :
   ∃ (a : Option Addr) (len cap n : Nat) (D : Nat → DataW H) (Q : Nat → List MemPlace), v = .slice a len cap ∧ len ≤ cap ∧ len * P.bytesOf e ≤ reachBytes ∧ cap ≤ maxLen ∧
     ∀ i, i < len → ∃ b o cs, a = some ⟨b, o, none⟩ ∧ cs.length = P.cellsOf e ∧ (∀ k, k < P.cellsOf e → w.cell? ⟨b, o + (i * P.cellsOf e + k), none⟩ = cs[k]?) ∧ DataW.trod enc P w base spare held n e cs = some (D i, Q i) ∧ ∀ m ∈ (D i).weights P e, m ≤ reachBytes := by
 rcases Deep.open_slice ht h with ⟨hcs, _⟩ | ⟨a, len, cap, m, n, D, Pl, hcs, hb, hl, hm, hmm, hxx, hx⟩
 · simp at hcs
   subst hcs
   exact ⟨none, 0, 0, 0, fun _ => .nil, fun _ => [], rfl, Nat.le_refl _, by simp, by unfold maxLen; omega, fun i hi => by omega⟩
 · simp at hcs
   subst hcs
   have hlm : len ≤ m := by rw [hmm]; split <;> omega
   have hx1 : x.1 = .slice ((List.range len).map D) ((List.range (m - len)).map fun j => D (len + j)) := by rw [hxx]
   refine ⟨some a, len, cap, n, D, Pl, rfl, hl, ?_, hm, fun i hi => ?_⟩
   · refine Nat.le_trans ?_ (hw _ (by rw [hx1]; unfold DataW.weights; rw [ht]; exact List.mem_cons_self))
     refine Nat.mul_le_mul_right _ ?_
     simp
   · obtain ⟨b, o, spot⟩ := a
     have hspot : spot = none := by
       obtain ⟨cs, h1, -⟩ := hx 0 (by omega)
       obtain ⟨_, hlen, hcell⟩ := World.cells?_some h1
       have h0 := hcell 0 hce
       rw [Nat.zero_mul] at h0
       have h2 : ∃ v, cs[0]? = some v := ⟨cs[0]'(by omega), List.getElem?_eq_getElem (by omega)⟩
       obtain ⟨v, hv⟩ := h2
       rw [hv] at h0
       simpa [Addr.add] using World.cell?_spot h0
     subst hspot
     obtain ⟨cs, h1, h2⟩ := hx i (by omega)
     obtain ⟨_, hlen, hcell⟩ := World.cells?_some h1
     refine ⟨b, o, cs, rfl, hlen, fun k hk => ?_, h2, fun k hk => hw k ?_⟩
     · rw [← hcell k hk, Deep.add_add, add_lit]
     · rw [hx1]
       unfold DataW.weights
       rw [ht]
       refine List.mem_cons_of_mem _ (List.mem_append_left _ (weigh_all hk ?_))
       exact List.mem_map.2 ⟨i, List.mem_range.2 hi, rfl⟩
theorem cells_Entry : Tryz.prog.cellsOf 66 = 2 := by kernel_rfl
theorem cells_Inode : Tryz.prog.cellsOf 64 = 4 := by kernel_rfl
theorem cells_Desc : Tryz.prog.cellsOf 39 = 3 := by kernel_rfl
theorem cells_State : Tryz.prog.cellsOf 26 = 3 := by kernel_rfl
theorem cells_Call : Tryz.prog.cellsOf 28 = 8 := by kernel_rfl
theorem cells_int : Tryz.prog.cellsOf 3 = 1 := by kernel_rfl
theorem cells_bool : Tryz.prog.cellsOf 4 = 1 := by kernel_rfl
theorem cells_string : Tryz.prog.cellsOf 9 = 1 := by kernel_rfl
theorem cells_ents : Tryz.prog.cellsOf 62 = 1 := by kernel_rfl
theorem cells_inos : Tryz.prog.cellsOf 22 = 1 := by kernel_rfl
theorem cells_dess : Tryz.prog.cellsOf 23 = 1 := by kernel_rfl
theorem cells_ints : Tryz.prog.cellsOf 24 = 1 := by kernel_rfl
theorem bytes_Entry : Tryz.prog.bytesOf 66 = 24 := by kernel_rfl
theorem bytes_Inode : Tryz.prog.bytesOf 64 = 56 := by kernel_rfl
theorem bytes_Desc : Tryz.prog.bytesOf 39 = 24 := by kernel_rfl
theorem bytes_int : Tryz.prog.bytesOf 3 = 8 := by kernel_rfl
set_option maxRecDepth 100000 in
theorem text_open {H : Type} {enc : TypeId × Value → H} {w : World} {base : Nat} {spare : Nat → Bool} {held : Bool} {fuel : Nat} {x : DataW H × List MemPlace} {v : Value} (h : DataW.trod enc Tryz.prog w base spare held fuel 9 [v] = some x) (hw : ∀ n ∈ x.1.weights Tryz.prog 9, n ≤ reachBytes) : ∃ s : ByteArray, v = .string s ∧ s.size ≤ 140737488351232 := by
 obtain ⟨s, hs, hx, -⟩ := DataW.trod_string Tryz.underlying9 h
 simp at hs
 refine ⟨s, hs, ?_⟩
 have := hw s.data.toList.length (by rw [hx]; unfold DataW.weights; simp)
 unfold reachBytes at this
 exact this
set_option maxRecDepth 100000 in
theorem int_open {H : Type} {enc : TypeId × Value → H} {w : World} {base : Nat} {spare : Nat → Bool} {held : Bool} {fuel : Nat} {x : DataW H × List MemPlace} {v : Value} (h : DataW.trod enc Tryz.prog w base spare held fuel 3 [v] = some x) : ∃ n : Int, v = .int .i64 n ∧ n ≤ 9223372036854775807 := by
 obtain ⟨n, hs, -, hx⟩ := DataW.trod_int Tryz.underlying3 h
 simp at hs
 exact ⟨n, hs, by
   have e : IntKind.i64.max = 9223372036854775807 := by decide
   simp [Lit.wf, e] at hx
   exact hx.2⟩
set_option maxRecDepth 100000 in
theorem bool_open {H : Type} {enc : TypeId × Value → H} {w : World} {base : Nat} {spare : Nat → Bool} {held : Bool} {fuel : Nat} {x : DataW H × List MemPlace} {v : Value} (h : DataW.trod enc Tryz.prog w base spare held fuel 4 [v] = some x) : ∃ b : Bool, v = .bool b := by
 obtain ⟨n, hs, -⟩ := DataW.trod_bool Tryz.underlying4 h
 simp at hs
 exact ⟨n, hs⟩
set_option maxRecDepth 100000 in
theorem ent_open {H : Type} {enc : TypeId × Value → H} {w : World} {base : Nat} {spare : Nat → Bool} {held : Bool} {fuel : Nat} {x : DataW H × List MemPlace} {cs : List Value} (h : DataW.trod enc Tryz.prog w base spare held fuel 66 cs = some x) (hw : ∀ n ∈ x.1.weights Tryz.prog 66, n ≤ reachBytes) : ∃ e : En, cs = [.string e.1, .int .i64 e.2] ∧ e.1.size ≤ 140737488351232 := by
 obtain ⟨xs, k, hk, hxy, hcl, hxl, hf⟩ := DataW.trod_struct Tryz.underlying66 h
 rw [cells_Entry] at hcl
 match xs, hxl, cs, hcl with
 | [y0, y1], _, [v0, v1], _ =>
   have g0 := hf 0 _ rfl
   have g1 := hf 1 _ rfl
   simp [cells_int, cells_string] at g0 g1
   have wts : ∀ n ∈ y0.1.weights Tryz.prog 9, n ≤ reachBytes := fun n hn => hw n (by
     rw [hxy]
     unfold DataW.weights
     rw [Tryz.underlying66]
     simp [DataW.weightsEach, hn])
   obtain ⟨s, rfl, hs⟩ := text_open g0 wts
   obtain ⟨n, rfl, -⟩ := int_open g1
   exact ⟨(s, n), rfl, hs⟩
set_option maxRecDepth 100000 in
theorem ents_open {H : Type} {enc : TypeId × Value → H} {w : World} {base : Nat} {spare : Nat → Bool} {held : Bool} {fuel : Nat} {x : DataW H × List MemPlace} {v : Value} (h : DataW.trod enc Tryz.prog w base spare held fuel 62 [v] = some x) (hw : ∀ n ∈ x.1.weights Tryz.prog 62, n ≤ reachBytes) :
   ∃ (a : Option Addr) (c : Nat) (E : List En), v = .slice a E.length c ∧ EntA w a E ∧ E.length ≤ c ∧ E.length ≤ 5864062014634 ∧ ∀ e ∈ E, e.1.size ≤ 140737488351232 := by
 obtain ⟨a, len, cap, n, D, Q, rfl, hl, hb, -, hx⟩ := slice_open Tryz.underlying62 (by rw [cells_Entry]; omega) h hw
 rw [bytes_Entry] at hb
 unfold reachBytes at hb
 have each : ∀ i, i < len → ∃ q : En, (∃ b o, a = some ⟨b, o, none⟩ ∧ w.cell? ⟨b, o + i * 2, none⟩ = some (.string q.1) ∧ w.cell? ⟨b, o + i * 2 + 1, none⟩ = some (.int .i64 q.2)) ∧ q.1.size ≤ 140737488351232 := by
   intro i hi
   obtain ⟨b, o, cs, rfl, hlen, hcell, h2, h3⟩ := hx i hi
   rw [cells_Entry] at hlen hcell
   obtain ⟨e, rfl, he⟩ := ent_open h2 h3
   have e0 := hcell 0 (by omega)
   have e1 := hcell 1 (by omega)
   exact ⟨e, ⟨b, o, rfl, by simpa using e0, by rw [Nat.add_assoc]; simpa using e1⟩, he⟩
 obtain ⟨q, hq⟩ := Deep.choose_lt each
 refine ⟨a, cap, (List.range len).map q, by simp, fun i hi => ?_, by simpa using hl, by simp; omega, fun e he => ?_⟩
 · have hi' : i < len := by simpa using hi
   have := (hq i hi').1
   simpa using this
 · obtain ⟨i, hi, rfl⟩ := List.mem_map.1 he
   exact (hq i (List.mem_range.1 hi)).2
def InoCs (w : World) (cs : List Value) (q : Ino) : Prop :=
 ∃ ae ce, cs = [.int .i64 q.num, .bool q.dir, .slice ae q.ents.length ce, .string q.data] ∧ EntA w ae q.ents ∧ q.ents.length ≤ ce ∧ q.ents.length ≤ 5864062014634 ∧ (∀ e ∈ q.ents, e.1.size ≤ 140737488351232) ∧ q.num ≤ 9223372036854775807 ∧ q.data.size ≤ 140737488351232
set_option maxRecDepth 100000 in
theorem ino_open {H : Type} {enc : TypeId × Value → H} {w : World} {base : Nat} {spare : Nat → Bool} {held : Bool} {fuel : Nat} {x : DataW H × List MemPlace} {cs : List Value} (h : DataW.trod enc Tryz.prog w base spare held fuel 64 cs = some x) (hw : ∀ n ∈ x.1.weights Tryz.prog 64, n ≤ reachBytes) : ∃ q : Ino, InoCs w cs q := by
 obtain ⟨xs, k, hk, hxy, hcl, hxl, hf⟩ := DataW.trod_struct Tryz.underlying64 h
 rw [cells_Inode] at hcl
 match xs, hxl, cs, hcl with
 | [y0, y1, y2, y3], _, [v0, v1, v2, v3], _ =>
   have g0 := hf 0 _ rfl
   have g1 := hf 1 _ rfl
   have g2 := hf 2 _ rfl
   have g3 := hf 3 _ rfl
   simp [cells_int, cells_string, cells_bool, cells_ents] at g0 g1 g2 g3
   have wt2 : ∀ n ∈ y2.1.weights Tryz.prog 62, n ≤ reachBytes := fun n hn => hw n (by
     rw [hxy]
     unfold DataW.weights
     rw [Tryz.underlying64]
     simp [DataW.weightsEach, hn])
   have wt3 : ∀ n ∈ y3.1.weights Tryz.prog 9, n ≤ reachBytes := fun n hn => hw n (by
     rw [hxy]
     unfold DataW.weights
     rw [Tryz.underlying64]
     simp [DataW.weightsEach, hn])
   obtain ⟨num, rfl, hn⟩ := int_open g0
   obtain ⟨d, rfl⟩ := bool_open g1
   obtain ⟨ae, ce, E, rfl, hE, hE1, hE2, hE3⟩ := ents_open g2 wt2
   obtain ⟨s, rfl, hs⟩ := text_open g3 wt3
   exact ⟨⟨num, d, E, s⟩, ae, ce, rfl, hE, hE1, hE2, hE3, hn, hs⟩
set_option maxRecDepth 100000 in
theorem inos_open {H : Type} {enc : TypeId × Value → H} {w : World} {base : Nat} {spare : Nat → Bool} {held : Bool} {fuel : Nat} {x : DataW H × List MemPlace} {v : Value} (h : DataW.trod enc Tryz.prog w base spare held fuel 22 [v] = some x) (hw : ∀ n ∈ x.1.weights Tryz.prog 22, n ≤ reachBytes) :
   ∃ (a : Option Addr) (c : Nat) (L : List Ino), v = .slice a L.length c ∧ InoA w a L ∧ L.length ≤ c ∧ L.length ≤ 2513169434843 ∧ (∀ q ∈ L, q.ents.length ≤ 5864062014634 ∧ (∀ e ∈ q.ents, e.1.size ≤ 140737488351232) ∧ q.num ≤ 9223372036854775807 ∧ q.data.size ≤ 140737488351232) := by
 obtain ⟨a, len, cap, n, D, Q, rfl, hl, hb, -, hx⟩ := slice_open Tryz.underlying22 (by rw [cells_Inode]; omega) h hw
 rw [bytes_Inode] at hb
 unfold reachBytes at hb
 have each : ∀ i, i < len → ∃ q : Ino, (∃ b o ae ce, a = some ⟨b, o, none⟩ ∧ w.cell? ⟨b, o + i * 4, none⟩ = some (.int .i64 q.num) ∧ w.cell? ⟨b, o + i * 4 + 1, none⟩ = some (.bool q.dir) ∧
     w.cell? ⟨b, o + i * 4 + 2, none⟩ = some (.slice ae q.ents.length ce) ∧ w.cell? ⟨b, o + i * 4 + 3, none⟩ = some (.string q.data) ∧ EntA w ae q.ents ∧ q.ents.length ≤ ce ∧ True) ∧ (q.ents.length ≤ 5864062014634 ∧ (∀ e ∈ q.ents, e.1.size ≤ 140737488351232) ∧ q.num ≤ 9223372036854775807 ∧ q.data.size ≤ 140737488351232) := by
   intro i hi
   obtain ⟨b, o, cs, rfl, hlen, hcell, h2, h3⟩ := hx i hi
   rw [cells_Inode] at hlen hcell
   obtain ⟨q, ae, ce, rfl, hE, hE1, hE2, hE3, hn, hs⟩ := ino_open h2 h3
   have e0 := hcell 0 (by omega)
   have e1 := hcell 1 (by omega)
   have e2 := hcell 2 (by omega)
   have e3 := hcell 3 (by omega)
   exact ⟨q, ⟨b, o, ae, ce, rfl, by simpa using e0, by rw [Nat.add_assoc]; simpa using e1, by rw [Nat.add_assoc]; simpa using e2, by rw [Nat.add_assoc]; simpa using e3, hE, hE1, trivial⟩, hE2, hE3, hn, hs⟩
 have inh : Inhabited Ino := ⟨⟨0, false, [], ⟨#[]⟩⟩⟩
 obtain ⟨q, hq⟩ := Deep.choose_lt each
 refine ⟨a, cap, (List.range len).map q, by simp, fun i hi => ?_, by simpa using hl, by simp; omega, fun e he => ?_⟩
 · have hi' : i < len := by simpa using hi
   have := (hq i hi').1
   simp only [List.getElem_map, List.getElem_range]
   exact this
 · obtain ⟨i, hi, rfl⟩ := List.mem_map.1 he
   exact (hq i (List.mem_range.1 hi)).2
set_option maxRecDepth 100000 in
theorem des_open {H : Type} {enc : TypeId × Value → H} {w : World} {base : Nat} {spare : Nat → Bool} {held : Bool} {fuel : Nat} {x : DataW H × List MemPlace} {cs : List Value} (h : DataW.trod enc Tryz.prog w base spare held fuel 39 cs = some x) : ∃ d : Ds, cs = [.int .i64 d.1, .int .i64 d.2.1, .int .i64 d.2.2] := by
 obtain ⟨xs, k, hk, hxy, hcl, hxl, hf⟩ := DataW.trod_struct Tryz.underlying39 h
 rw [cells_Desc] at hcl
 match xs, hxl, cs, hcl with
 | [y0, y1, y2], _, [v0, v1, v2], _ =>
   have g0 := hf 0 _ rfl
   have g1 := hf 1 _ rfl
   have g2 := hf 2 _ rfl
   simp [cells_int] at g0 g1 g2
   obtain ⟨n0, rfl, -⟩ := int_open g0
   obtain ⟨n1, rfl, -⟩ := int_open g1
   obtain ⟨n2, rfl, -⟩ := int_open g2
   exact ⟨(n0, n1, n2), rfl⟩
set_option maxRecDepth 100000 in
theorem dess_open {H : Type} {enc : TypeId × Value → H} {w : World} {base : Nat} {spare : Nat → Bool} {held : Bool} {fuel : Nat} {x : DataW H × List MemPlace} {v : Value} (h : DataW.trod enc Tryz.prog w base spare held fuel 23 [v] = some x) (hw : ∀ n ∈ x.1.weights Tryz.prog 23, n ≤ reachBytes) :
   ∃ (a : Option Addr) (c : Nat) (L : List Ds), v = .slice a L.length c ∧ DesA w a L ∧ L.length ≤ c ∧ L.length ≤ 5864062014634 := by
 obtain ⟨a, len, cap, n, D, Q, rfl, hl, hb, -, hx⟩ := slice_open Tryz.underlying23 (by rw [cells_Desc]; omega) h hw
 rw [bytes_Desc] at hb
 unfold reachBytes at hb
 have each : ∀ i, i < len → ∃ q : Ds, ∃ b o, a = some ⟨b, o, none⟩ ∧ w.cell? ⟨b, o + i * 3, none⟩ = some (.int .i64 q.1) ∧ w.cell? ⟨b, o + i * 3 + 1, none⟩ = some (.int .i64 q.2.1) ∧ w.cell? ⟨b, o + i * 3 + 2, none⟩ = some (.int .i64 q.2.2) := by
   intro i hi
   obtain ⟨b, o, cs, rfl, hlen, hcell, h2, h3⟩ := hx i hi
   rw [cells_Desc] at hlen hcell
   obtain ⟨q, rfl⟩ := des_open h2
   have e0 := hcell 0 (by omega)
   have e1 := hcell 1 (by omega)
   have e2 := hcell 2 (by omega)
   exact ⟨q, b, o, rfl, by simpa using e0, by rw [Nat.add_assoc]; simpa using e1, by rw [Nat.add_assoc]; simpa using e2⟩
 obtain ⟨q, hq⟩ := Deep.choose_lt each
 refine ⟨a, cap, (List.range len).map q, by simp, fun i hi => ?_, by simpa using hl, by simp; omega⟩
 have hi' : i < len := by simpa using hi
 have := hq i hi'
 simp only [List.getElem_map, List.getElem_range]
 exact this
set_option maxRecDepth 100000 in
theorem mads_open {H : Type} {enc : TypeId × Value → H} {w : World} {base : Nat} {spare : Nat → Bool} {held : Bool} {fuel : Nat} {x : DataW H × List MemPlace} {v : Value} (h : DataW.trod enc Tryz.prog w base spare held fuel 24 [v] = some x) (hw : ∀ n ∈ x.1.weights Tryz.prog 24, n ≤ reachBytes) :
   ∃ (a : Option Addr) (c : Nat) (L : List Int), v = .slice a L.length c ∧ IntA w a L ∧ L.length ≤ c ∧ L.length ≤ 17592186043904 := by
 obtain ⟨a, len, cap, n, D, Q, rfl, hl, hb, -, hx⟩ := slice_open Tryz.underlying24 (by rw [cells_int]; omega) h hw
 rw [bytes_int] at hb
 unfold reachBytes at hb
 have each : ∀ i, i < len → ∃ q : Int, ∃ b o, a = some ⟨b, o, none⟩ ∧ w.cell? ⟨b, o + i, none⟩ = some (.int .i64 q) := by
   intro i hi
   obtain ⟨b, o, cs, rfl, hlen, hcell, h2, h3⟩ := hx i hi
   rw [cells_int] at hlen hcell
   match cs, hlen with
   | [v0], _ =>
     obtain ⟨q, rfl, -⟩ := int_open h2
     have e0 := hcell 0 (by omega)
     exact ⟨q, b, o, rfl, by simpa using e0⟩
 obtain ⟨q, hq⟩ := Deep.choose_lt each
 refine ⟨a, cap, (List.range len).map q, by simp, fun i hi => ?_, by simpa using hl, by simp; omega⟩
 have hi' : i < len := by simpa using hi
 have := hq i hi'
 simp only [List.getElem_map, List.getElem_range]
 exact this
set_option maxRecDepth 100000 in
theorem sta_open {H : Type} {enc : TypeId × Value → H} {w : World} {base : Nat} {spare : Nat → Bool} {held : Bool} {fuel : Nat} {x : DataW H × List MemPlace} {cs : List Value} (h : DataW.trod enc Tryz.prog w base spare held fuel 26 cs = some x) (hw : ∀ n ∈ x.1.weights Tryz.prog 26, n ≤ reachBytes) :
   ∃ (p : Pl) (S : Sta), cs = [.slice p.a1 S.ino.length p.c1, .slice p.a2 S.opn.length p.c2, .slice p.a3 S.made.length p.c3] ∧ Sv w p S ∧ Bd S := by
 obtain ⟨xs, k, hk, hxy, hcl, hxl, hf⟩ := DataW.trod_struct Tryz.underlying26 h
 rw [cells_State] at hcl
 match xs, hxl, cs, hcl with
 | [y0, y1, y2], _, [v0, v1, v2], _ =>
   have g0 := hf 0 _ rfl
   have g1 := hf 1 _ rfl
   have g2 := hf 2 _ rfl
   simp [cells_inos, cells_dess, cells_ints] at g0 g1 g2
   have wt0 : ∀ n ∈ y0.1.weights Tryz.prog 22, n ≤ reachBytes := fun n hn => hw n (by
     rw [hxy]
     unfold DataW.weights
     rw [Tryz.underlying26]
     simp [DataW.weightsEach, hn])
   have wt1 : ∀ n ∈ y1.1.weights Tryz.prog 23, n ≤ reachBytes := fun n hn => hw n (by
     rw [hxy]
     unfold DataW.weights
     rw [Tryz.underlying26]
     simp [DataW.weightsEach, hn])
   have wt2 : ∀ n ∈ y2.1.weights Tryz.prog 24, n ≤ reachBytes := fun n hn => hw n (by
     rw [hxy]
     unfold DataW.weights
     rw [Tryz.underlying26]
     simp [DataW.weightsEach, hn])
   obtain ⟨a1, c1, L, rfl, i1, i2, i3, i4⟩ := inos_open g0 wt0
   obtain ⟨a2, c2, O, rfl, o1, o2, o3⟩ := dess_open g1 wt1
   obtain ⟨a3, c3, M, rfl, m1, m2, m3⟩ := mads_open g2 wt2
   have hlim : 17592186043904 ≤ lim := by unfold lim; omega
   refine ⟨⟨a1, c1, a2, c2, a3, c3⟩, ⟨L, O, M⟩, rfl, ⟨i1, o1, m1, ?_, ?_, ?_, ?_, ?_, i2, o2, m2, trivial, trivial⟩, ⟨i3, o3, m3, fun x hx => (i4 x hx).1, fun x hx => (i4 x hx).2.2.1, fun x hx => (i4 x hx).2.2.2, fun x hx => (i4 x hx).2.1⟩⟩
   · show L.length ≤ lim; omega
   · show O.length ≤ lim; omega
   · show M.length ≤ lim; omega
   · intro x hx; have := (i4 x hx).1; omega
   · exact fun x hx => (i4 x hx).2.2.1
set_option maxRecDepth 100000 in
theorem cal_open {H : Type} {enc : TypeId × Value → H} {w : World} {base : Nat} {spare : Nat → Bool} {held : Bool} {fuel : Nat} {x : DataW H × List MemPlace} {cs : List Value} (h : DataW.trod enc Tryz.prog w base spare held fuel 28 cs = some x) (hw : ∀ n ∈ x.1.weights Tryz.prog 28, n ≤ reachBytes) :
   ∃ c : Cal, cs = [.int .i64 c.kind, .int .i64 c.core, .int .i64 c.fd, .int .i64 c.off, .int .i64 c.num, .string c.path, .string c.path2, .string c.data] ∧ c.data.size ≤ 140737488351232 := by
 obtain ⟨xs, k, hk, hxy, hcl, hxl, hf⟩ := DataW.trod_struct Tryz.underlying28 h
 rw [cells_Call] at hcl
 match xs, hxl, cs, hcl with
 | [y0, y1, y2, y3, y4, y5, y6, y7], _, [v0, v1, v2, v3, v4, v5, v6, v7], _ =>
   have g0 := hf 0 _ rfl
   have g1 := hf 1 _ rfl
   have g2 := hf 2 _ rfl
   have g3 := hf 3 _ rfl
   have g4 := hf 4 _ rfl
   have g5 := hf 5 _ rfl
   have g6 := hf 6 _ rfl
   have g7 := hf 7 _ rfl
   simp [cells_int, cells_string] at g0 g1 g2 g3 g4 g5 g6 g7
   have wt7 : ∀ n ∈ y7.1.weights Tryz.prog 9, n ≤ reachBytes := fun n hn => hw n (by
     rw [hxy]
     unfold DataW.weights
     rw [Tryz.underlying28]
     simp [DataW.weightsEach, hn])
   obtain ⟨n0, rfl, -⟩ := int_open g0
   obtain ⟨n1, rfl, -⟩ := int_open g1
   obtain ⟨n2, rfl, -⟩ := int_open g2
   obtain ⟨n3, rfl, -⟩ := int_open g3
   obtain ⟨n4, rfl, -⟩ := int_open g4
   obtain ⟨s5, q5, -, -⟩ := DataW.trod_string Tryz.underlying9 g5
   obtain ⟨s6, q6, -, -⟩ := DataW.trod_string Tryz.underlying9 g6
   obtain ⟨s7, rfl, h7⟩ := text_open g7 wt7
   simp at q5 q6
   subst q5 q6
   exact ⟨⟨n0, n1, n2, n3, n4, s5, s6, s7⟩, rfl, h7⟩
end Go.Proofs.YtmeafancgmkfkaaGreatDoor

namespace Go.Proofs.YtmeafancgmkfkaaGreatDoor
open Go.ChangeShapes Go.WideShapes Go.ChangeAt Go.WideMaps Go.WideElems Go.RowKit Go.Lib
def laid2 : List (String × DataW Unit) := [("unicode/utf8.acceptRanges", Rows.laid_unicode_utf8_acceptRanges), ("unicode/utf8.first", Rows.laid_unicode_utf8_first)]
theorem own : ownKnob Tryz.prog.godebug = none := by kernel_rfl
theorem laidOut : laidOutB Tryz.prog = true := by kernel_rfl
theorem gFirst : Tryz.prog.globalNamed "unicode/utf8.first" = some 0 := by kernel_rfl
theorem tFirst : (Tryz.prog.globals[0]?).map (·.type) = some 156 := by kernel_rfl
theorem gAcc : Tryz.prog.globalNamed "unicode/utf8.acceptRanges" = some 1 := by kernel_rfl
theorem tAcc : (Tryz.prog.globals[1]?).map (·.type) = some 159 := by kernel_rfl
theorem first_listed : Rows.laid_unicode_utf8_first = .agg ((List.range 256).map fun i => .lit (.int .u8 (firstT i))) := by kernel_rfl
theorem acc_listed : (Rows.laid_unicode_utf8_acceptRanges : DataW Unit) = .agg ((List.range 16).map fun i => .agg [.lit (.int .u8 (accLo i)), .lit (.int .u8 (accHi i))]) := by kernel_rfl
theorem met_laid (os : Go.Os) (args : Array Value) : laidMetH Tryz.prog laid2 ((World.laidAll Tryz.prog os laid2).forCall (fun _ _ => 0) ⟨#[], args, []⟩).memory := by
 rw [MakeChecks.laidMetH_plain _ _ _ (by kernel_rfl)]
 exact laidMet_laidAll _ (by kernel_rfl) (by kernel_rfl)
theorem head_of_take {cs : List Value} {i : Nat} {v : Value} (h : (cs.drop i).take 1 = [v]) : cs[i]? = some v := by
 have := congrArg List.head? h
 simpa [List.head?_take] using this
theorem of_laid {W : World} (h : laidMetH Tryz.prog laid2 W) : Tab W := by
 rw [MakeChecks.laidMetH_plain _ _ _ (by kernel_rfl)] at h
 obtain ⟨ps, ⟨g0, t0, cs0, f0, p0, q0, hg0, ht0, hv0, hd0, ⟨g1, t1, cs1, f1, p1, q1, hg1, ht1, hv1, hd1, _, _⟩, _⟩, _, _⟩ := h
 obtain rfl := Option.some.inj (gAcc.symm.trans hg0)
 obtain rfl := Option.some.inj (tAcc.symm.trans ht0)
 obtain rfl := Option.some.inj (gFirst.symm.trans hg1)
 obtain rfl := Option.some.inj (tFirst.symm.trans ht1)
 have c5 : Tryz.prog.cellsOf 5 = 1 := by kernel_rfl
 have c43 : Tryz.prog.cellsOf 158 = 2 := by kernel_rfl
 refine ⟨fun i hi => ?_, fun i hi => ?_⟩
 · obtain ⟨xs, m1, rfl, hx1, hlen, hn3, hel⟩ := DataW.trod_array Tryz.underlying156 hd1
   have hc := World.var?_cell hg1 hv1 i
   have h0 := hel i (by omega)
   have hix : i < xs.length := by omega
   rw [List.getElem?_eq_getElem hix] at h0
   obtain ⟨k, e1, e2, _⟩ := DataW.trod_int Tryz.underlying5 h0
   rw [c5, Nat.mul_one] at e1
   have hcs := head_of_take e1
   have hL := congrArg (fun x => x.1) hx1
   simp only [first_listed, DataW.agg.injEq] at hL
   have hLi := congrArg (fun l => l[i]?) hL
   simp only [List.getElem?_map, List.getElem?_range hi, Option.map_some, List.getElem?_eq_getElem hix, e2] at hLi
   have hk : (firstT i : Int) = k := by simpa using hLi
   rw [hc, ← Array.getElem?_toList, hcs, hk]
 · obtain ⟨xs, m1, rfl, hx1, hlen, hn3, hel⟩ := DataW.trod_array Tryz.underlying159 hd0
   have hca := World.var?_cell hg0 hv0 (2 * i)
   have hcb := World.var?_cell hg0 hv0 (2 * i + 1)
   have h0 := hel i (by omega)
   have hix : i < xs.length := by omega
   rw [List.getElem?_eq_getElem hix, c43] at h0
   obtain ⟨y0, y1, n, e0, _, d0, d1⟩ := trod_struct2 Tryz.underlying158 h0
   simp only [c5, List.drop_zero] at d0 d1
   obtain ⟨k0, e1, e2, _⟩ := DataW.trod_int Tryz.underlying5 d0
   obtain ⟨k1, e3, e4, _⟩ := DataW.trod_int Tryz.underlying5 d1
   have hL := congrArg (fun x => x.1) hx1
   simp only [acc_listed, DataW.agg.injEq] at hL
   have hLi := congrArg (fun l => l[i]?) hL
   simp only [List.getElem?_map, List.getElem?_range hi, Option.map_some, List.getElem?_eq_getElem hix, e0, e2, e4] at hLi
   have hk : (accLo i : Int) = k0 ∧ (accHi i : Int) = k1 := by simpa using hLi
   have ea : cs0.toList[2 * i]? = some (.int .u8 k0) := by
     have := congrArg (fun l => l[0]?) e1
     simp only [List.getElem?_take, List.getElem?_drop] at this
     simpa [Nat.mul_comm] using this
   have eb : cs0.toList[2 * i + 1]? = some (.int .u8 k1) := by
     have := congrArg (fun l => l[0]?) e3
     simp only [List.getElem?_take, List.getElem?_drop] at this
     simpa [Nat.mul_comm] using this
   exact ⟨by rw [hca, ← Array.getElem?_toList, ea, hk.1], by rw [hcb, ← Array.getElem?_toList, eb, hk.2]⟩
end Go.Proofs.YtmeafancgmkfkaaGreatDoor
