/-
  Joined of my texts Ms Lk.
-/
import Derived.Test.YtjneoegbknclgaaGreatDoorJo45
import Derived.Test.YtjneoegbknclgaaGreatDoorJo46
import Derived.Test.YtjneoegbknclgaaGreatDoorJo43
import Derived.Test.YtjneoegbknclgaaGreatDoorJo31
import Derived.Test.YtjneoegbknclgaaGreatDoorJo44
set_option linter.unusedVariables false
set_option linter.unusedSimpArgs false
set_option maxRecDepth 100000
set_option maxHeartbeats 8000000
namespace Go.Proofs.YtjneoegbknclgaaGreatDoor
open Go.RowKit
def bktN (t : ByteArray) : Nat := (bkt t).toNat
theorem row_some {w : World} {H : Nat} {T : TypeId} {k : Nat} {v : Value} {n : Nat} {xs : List Value} (h : w.ownsRow H T k v n xs) (hn : 0 < n) : ∃ g c, v = .slice (some ⟨g, 0, none⟩) n c := by
 rcases h.2 with ⟨rfl, rfl⟩ | ⟨g, cap, cur, rfl, -⟩
 · omega
 · exact ⟨g, cap, rfl⟩
theorem inn_make0 {S S' : Sta} (hb : Bd S) (hc : Clo S.ino) (hz : ∀ x ∈ S.ino, ∀ e ∈ x.ents, e.2 ≠ 0) (c : Cal) (hck : c.kind = 0) {i : Nat} (hci : c.core = (i : Int)) (hil : i < S.made.length) {gm : Int} (hgm : S.made[i] = gm) (hg0 : 0 ≤ gm) (hg1 : gm < 32) (hi8 : i < 8) (hab : ∀ x ∈ S.ino, x.num < 2 + (i : Int) + 8 * gm)
  {d : Int} {t : ByteArray} (hsp : spotR S.ino c.path = .ok (d, t)) {k : Nat} (hak : atR S.ino d = some k) (hk : k < S.ino.length) {E : List En} (hE : (S.ino[k]).ents = E) (ht : t.size ≤ 12) (hsz : ∀ e ∈ E, e.1.size ≤ 12 ∧ e.1.toList ≠ []) (hno : ∀ e ∈ E, e.1 ≠ t) (hen : entryR S.ino d t = 0) {bt : Nat} (hbt : bkt t = (bt : Int)) (hroom : ¬ 4 ≤ inB E bt)
  (hS : ⟨(setE ⟨S.ino, S.opn, S.made.set i (gm + 1)⟩ k hk (insR ltE E (t, (2 + (i : Int) + 8 * gm)))).ino ++ [⟨(2 + (i : Int) + 8 * gm), c.kind == 1, [], ⟨#[]⟩⟩], S.opn, S.made.set i (gm + 1)⟩ = S') :
  Inn 59 [.agg #[.int .i64 0, .int .i64 (i : Int), .int .i64 c.fd, .int .i64 c.off, .int .i64 c.num, .string c.path, .string c.path2, .string c.data]] (.agg #[.int .i64 0, .int .i64 0, .int .i64 0, .bool false, .string ⟨#[]⟩, .slice none 0 0]) S S' := by
 intro w0 w X v1 v2 v3 ev h
 obtain ⟨g, c1, rfl⟩ := row_some h.os.ino (by omega)
 obtain ⟨a2, c2, rfl, -⟩ := row_form h.os.opn
 obtain ⟨g3, c3, rfl⟩ := row_some h.os.mad (by omega)
 have h1 := r_make1 h hb hc hz c hci hil hgm hg0 hg1 hi8 hab hsp hak hk hE ht hsz hno hen hbt hroom
 rw [hck, hci] at h1
 refine h1.mono ?_
 rintro e w' ⟨rfl, a1', c1', ev', h', k'⟩
 rw [hck] at hS
 refine ⟨rfl, _, _, _, _, [g, g3, X], hS ▸ h', k', fun x hx => ?_⟩
 simp only [List.mem_cons, List.not_mem_nil, or_false] at hx
 rcases hx with rfl | rfl | rfl
 · exact Or.inr fun ho => (ho _ (by simp)).1 rfl
 · exact Or.inr fun ho => (ho _ (by simp)).2.2.1 rfl
 · exact Or.inl rfl
theorem inn_make1 {S S' : Sta} (hb : Bd S) (hc : Clo S.ino) (hz : ∀ x ∈ S.ino, ∀ e ∈ x.ents, e.2 ≠ 0) (c : Cal) (hck : c.kind = 1) {i : Nat} (hci : c.core = (i : Int)) (hil : i < S.made.length) {gm : Int} (hgm : S.made[i] = gm) (hg0 : 0 ≤ gm) (hg1 : gm < 32) (hi8 : i < 8) (hab : ∀ x ∈ S.ino, x.num < 2 + (i : Int) + 8 * gm)
  {d : Int} {t : ByteArray} (hsp : spotR S.ino c.path = .ok (d, t)) {k : Nat} (hak : atR S.ino d = some k) (hk : k < S.ino.length) {E : List En} (hE : (S.ino[k]).ents = E) (ht : t.size ≤ 12) (hsz : ∀ e ∈ E, e.1.size ≤ 12 ∧ e.1.toList ≠ []) (hno : ∀ e ∈ E, e.1 ≠ t) (hen : entryR S.ino d t = 0) {bt : Nat} (hbt : bkt t = (bt : Int)) (hroom : ¬ 4 ≤ inB E bt)
  (hS : ⟨(setE ⟨S.ino, S.opn, S.made.set i (gm + 1)⟩ k hk (insR ltE E (t, (2 + (i : Int) + 8 * gm)))).ino ++ [⟨(2 + (i : Int) + 8 * gm), c.kind == 1, [], ⟨#[]⟩⟩], S.opn, S.made.set i (gm + 1)⟩ = S') :
  Inn 59 [.agg #[.int .i64 1, .int .i64 (i : Int), .int .i64 c.fd, .int .i64 c.off, .int .i64 c.num, .string c.path, .string c.path2, .string c.data]] (.agg #[.int .i64 0, .int .i64 0, .int .i64 0, .bool false, .string ⟨#[]⟩, .slice none 0 0]) S S' := by
 intro w0 w X v1 v2 v3 ev h
 obtain ⟨g, c1, rfl⟩ := row_some h.os.ino (by omega)
 obtain ⟨a2, c2, rfl, -⟩ := row_form h.os.opn
 obtain ⟨g3, c3, rfl⟩ := row_some h.os.mad (by omega)
 have h1 := r_make1 h hb hc hz c hci hil hgm hg0 hg1 hi8 hab hsp hak hk hE ht hsz hno hen hbt hroom
 rw [hck, hci] at h1
 refine h1.mono ?_
 rintro e w' ⟨rfl, a1', c1', ev', h', k'⟩
 rw [hck] at hS
 refine ⟨rfl, _, _, _, _, [g, g3, X], hS ▸ h', k', fun x hx => ?_⟩
 simp only [List.mem_cons, List.not_mem_nil, or_false] at hx
 rcases hx with rfl | rfl | rfl
 · exact Or.inr fun ho => (ho _ (by simp)).1 rfl
 · exact Or.inr fun ho => (ho _ (by simp)).2.2.1 rfl
 · exact Or.inl rfl
theorem inn_link {S S' : Sta} (hb : Bd S) (hne : 0 < S.ino.length) (hc : Clo S.ino) (hz : ∀ x ∈ S.ino, ∀ e ∈ x.ents, e.2 ≠ 0) (c : Cal) (hck : c.kind = 8) {num : Int} {f : Nat} (hf : findR S.ino c.path = (num, 0)) (hat : atR S.ino num = some f) (hfl : f < S.ino.length) (hd : (S.ino[f]).dir = false)
  {d : Int} {t : ByteArray} (hsp : spotR S.ino c.path2 = .ok (d, t)) {k : Nat} (hak : atR S.ino d = some k) (hk : k < S.ino.length) {E : List En} (hE : (S.ino[k]).ents = E) (ht : t.size ≤ 12) (hsz : ∀ e ∈ E, e.1.size ≤ 12 ∧ e.1.toList ≠ []) (hno : ∀ e ∈ E, e.1 ≠ t) (hen : entryR S.ino d t = 0) {bt : Nat} (hbt : bkt t = (bt : Int)) (hroom : ¬ 4 ≤ inB E bt)
  (hS : setE S k hk (insR ltE E (t, num)) = S') :
  Inn 98 [.agg #[.int .i64 8, .int .i64 c.core, .int .i64 c.fd, .int .i64 c.off, .int .i64 c.num, .string c.path, .string c.path2, .string c.data]] (.agg #[.int .i64 0, .int .i64 0, .int .i64 0, .bool false, .string ⟨#[]⟩, .slice none 0 0]) S S' := by
 intro w0 w X v1 v2 v3 ev h
 obtain ⟨g, c1, rfl⟩ := row_some h.os.ino hne
 obtain ⟨a2, c2, rfl, -⟩ := row_form h.os.opn
 obtain ⟨a3, c3, rfl, -⟩ := row_form h.os.mad
 have h1 := r_link h hb hc hz c hf hat hfl hd hsp hak hk hE ht hsz hno hen hbt hroom
 rw [hck] at h1
 refine h1.mono ?_
 rintro e w' ⟨rfl, ev', h', k'⟩
 refine ⟨rfl, _, _, _, _, [g], hS ▸ h', k', fun x hx => ?_⟩
 simp only [List.mem_cons, List.not_mem_nil, or_false] at hx
 subst hx
 exact Or.inr fun ho => (ho _ (by simp)).1 rfl
theorem inn_open {L : List Ino} {M : List Int} {S' : Sta} (hb : Bd ⟨L, [], M⟩) (hne : 0 < L.length) (hc : Clo L) (hz : ∀ x ∈ L, ∀ e ∈ x.ents, e.2 ≠ 0) (c : Cal) (hck : c.kind = 2) {i : Nat} (hci : c.core = (i : Int)) {num : Int} {k : Nat} (hf : findR L c.path = (num, 0)) (hat : atR L num = some k) (hk : k < L.length) (hd : (L[k]).dir = false) (hS : ⟨L, [((i : Int), 0, num)], M⟩ = S') :
  Inn 60 [.agg #[.int .i64 2, .int .i64 (i : Int), .int .i64 c.fd, .int .i64 c.off, .int .i64 c.num, .string c.path, .string c.path2, .string c.data], .int .i64 (-1)] (.tuple #[.agg #[.int .i64 0, .int .i64 0, .int .i64 0, .bool false, .string ⟨#[]⟩, .slice none 0 0], .bool true]) ⟨L, [], M⟩ S' := by
 intro w0 w X v1 v2 v3 ev h
 obtain ⟨g, c1, rfl⟩ := row_some h.os.ino hne
 obtain ⟨a2, c2, rfl, -⟩ := row_form h.os.opn
 obtain ⟨a3, c3, rfl, -⟩ := row_form h.os.mad
 have h1 := r_opened h hb hc hz c hf hat hk hd
 rw [hck, hci] at h1
 refine h1.mono ?_
 rintro e w' ⟨rfl, a2', c2', h', k'⟩
 refine ⟨rfl, _, _, _, _, [X], hS ▸ h', k', fun x hx => ?_⟩
 simp only [List.mem_cons, List.not_mem_nil, or_false] at hx
 exact Or.inl hx
theorem inn_write {S S' : Sta} (hb : Bd S) (c : Cal) (hck : c.kind = 5) {i : Nat} (hci : c.core = (i : Int)) {num : Int} (hfd : fdR S.opn c.core c.fd = num) (hnz : num ≠ 0) {k : Nat} (hat : atR S.ino num = some k) (hk : k < S.ino.length) {D : ByteArray} (hD : (S.ino[k]).data = D) {a : Nat} (ho : c.off = (a : Int)) (hz6 : 0 < c.data.size) (hne : c.data.toList.isEmpty = false) (hq6 : a + c.data.size ≤ 256) (hS : setD S k hk (strOfNums (writeQ D c.data a)) = S') :
  Inn 61 [.agg #[.int .i64 5, .int .i64 (i : Int), .int .i64 c.fd, .int .i64 c.off, .int .i64 c.num, .string c.path, .string c.path2, .string c.data]] (.agg #[.int .i64 0, .int .i64 0, .int .i64 (c.data.size : Int), .bool false, .string ⟨#[]⟩, .slice none 0 0]) S S' := by
 intro w0 w X v1 v2 v3 ev h
 obtain ⟨g, c1, rfl⟩ := row_some h.os.ino (by omega)
 obtain ⟨a2, c2, rfl, -⟩ := row_form h.os.opn
 obtain ⟨a3, c3, rfl, -⟩ := row_form h.os.mad
 have h1 := r_write h hb c hck hfd hnz hat hk hD ho hz6 hne hq6
 rw [hck, hci] at h1
 refine h1.mono ?_
 rintro e w' ⟨rfl, h', k'⟩
 refine ⟨rfl, _, _, _, _, [g], hS ▸ h', k', fun x hx => ?_⟩
 simp only [List.mem_cons, List.not_mem_nil, or_false] at hx
 subst hx
 exact Or.inr fun ho => (ho _ (by simp)).1 rfl
def mS1 : Nat → Sta
 | 0 => ⟨[⟨1, true, [], ⟨#[]⟩⟩], [], [0]⟩
 | 1 => ⟨[⟨1, true, [(⟨#[100]⟩, 2)], ⟨#[]⟩⟩, ⟨2, true, [], ⟨#[]⟩⟩], [], [1]⟩
 | 2 => ⟨[⟨1, true, [(⟨#[100]⟩, 2), (⟨#[101]⟩, 10)], ⟨#[]⟩⟩, ⟨2, true, [], ⟨#[]⟩⟩, ⟨10, true, [], ⟨#[]⟩⟩], [], [2]⟩
 | 3 => ⟨[⟨1, true, [(⟨#[100]⟩, 2), (⟨#[101]⟩, 10), (⟨#[102]⟩, 18)], ⟨#[]⟩⟩, ⟨2, true, [], ⟨#[]⟩⟩, ⟨10, true, [], ⟨#[]⟩⟩, ⟨18, false, [], ⟨#[]⟩⟩], [], [3]⟩
 | 4 => ⟨[⟨1, true, [(⟨#[100]⟩, 2), (⟨#[101]⟩, 10), (⟨#[102]⟩, 18), (⟨#[103]⟩, 18)], ⟨#[]⟩⟩, ⟨2, true, [], ⟨#[]⟩⟩, ⟨10, true, [], ⟨#[]⟩⟩, ⟨18, false, [], ⟨#[]⟩⟩], [], [3]⟩
 | 5 => ⟨[⟨1, true, [(⟨#[100]⟩, 2), (⟨#[101]⟩, 10), (⟨#[102]⟩, 18), (⟨#[103]⟩, 18)], ⟨#[]⟩⟩, ⟨2, true, [(⟨#[104]⟩, 26)], ⟨#[]⟩⟩, ⟨10, true, [], ⟨#[]⟩⟩, ⟨18, false, [], ⟨#[]⟩⟩, ⟨26, false, [], ⟨#[]⟩⟩], [], [4]⟩
 | 6 => ⟨[⟨1, true, [(⟨#[100]⟩, 2), (⟨#[101]⟩, 10), (⟨#[102]⟩, 18), (⟨#[103]⟩, 18)], ⟨#[]⟩⟩, ⟨2, true, [(⟨#[104]⟩, 26)], ⟨#[]⟩⟩, ⟨10, true, [], ⟨#[]⟩⟩, ⟨18, false, [], ⟨#[]⟩⟩, ⟨26, false, [], ⟨#[]⟩⟩], [(0, 0, 18)], [4]⟩
 | _ => ⟨[⟨1, true, [(⟨#[100]⟩, 2), (⟨#[101]⟩, 10), (⟨#[102]⟩, 18), (⟨#[103]⟩, 18)], ⟨#[]⟩⟩, ⟨2, true, [(⟨#[104]⟩, 26)], ⟨#[]⟩⟩, ⟨10, true, [], ⟨#[]⟩⟩, ⟨18, false, [], ⟨#[48, 49, 50, 51, 52, 53, 54, 55, 56, 57]⟩⟩, ⟨26, false, [], ⟨#[]⟩⟩], [(0, 0, 18)], [4]⟩
theorem mb1_0 : mayB (mS1 0) = true := by kernel_rfl
theorem md1_0 : Bd (mS1 0) := bd_of (by kernel_rfl)
theorem mb1_1 : mayB (mS1 1) = true := by kernel_rfl
theorem md1_1 : Bd (mS1 1) := bd_of (by kernel_rfl)
theorem mb1_2 : mayB (mS1 2) = true := by kernel_rfl
theorem md1_2 : Bd (mS1 2) := bd_of (by kernel_rfl)
theorem mb1_3 : mayB (mS1 3) = true := by kernel_rfl
theorem md1_3 : Bd (mS1 3) := bd_of (by kernel_rfl)
theorem mb1_4 : mayB (mS1 4) = true := by kernel_rfl
theorem md1_4 : Bd (mS1 4) := bd_of (by kernel_rfl)
theorem mb1_5 : mayB (mS1 5) = true := by kernel_rfl
theorem md1_5 : Bd (mS1 5) := bd_of (by kernel_rfl)
theorem mb1_6 : mayB (mS1 6) = true := by kernel_rfl
theorem md1_6 : Bd (mS1 6) := bd_of (by kernel_rfl)
theorem mk1_0 : DoM (calM 0) (mS1 0) (mS1 1) :=
 ⟨0, fun w p h => r_Do (calM 0) 0 fun W kW => r_do1 (h.kept kW) md1_0 (may_p mb1_0).2 (may_p mb1_0).1 (calM 0) rfl (i := 0) rfl (by decide) 0
  (inn_make1 md1_0 (wel_of mb1_0).clo (by decide +kernel) (calM 0) rfl (i := 0) rfl (by decide) (gm := 0) rfl (by decide) (by decide) (by decide) (by decide +kernel) (d := 1) (t := ⟨#[100]⟩) (by kernel_rfl) (k := 0) (by kernel_rfl) (by decide) rfl (by decide) (by decide +kernel) (by decide +kernel) (by kernel_rfl) (bt := bktN ⟨#[100]⟩) (by kernel_rfl) (by decide +kernel) (by kernel_rfl))⟩
theorem mk1_1 : DoM (calM 1) (mS1 1) (mS1 2) :=
 ⟨0, fun w p h => r_Do (calM 1) 0 fun W kW => r_do1 (h.kept kW) md1_1 (may_p mb1_1).2 (may_p mb1_1).1 (calM 1) rfl (i := 0) rfl (by decide) 0
  (inn_make1 md1_1 (wel_of mb1_1).clo (by decide +kernel) (calM 1) rfl (i := 0) rfl (by decide) (gm := 1) rfl (by decide) (by decide) (by decide) (by decide +kernel) (d := 1) (t := ⟨#[101]⟩) (by kernel_rfl) (k := 0) (by kernel_rfl) (by decide) rfl (by decide) (by decide +kernel) (by decide +kernel) (by kernel_rfl) (bt := bktN ⟨#[101]⟩) (by kernel_rfl) (by decide +kernel) (by kernel_rfl))⟩
theorem mk1_2 : DoM (calM 2) (mS1 2) (mS1 3) :=
 ⟨0, fun w p h => r_Do (calM 2) 0 fun W kW => r_do0 (h.kept kW) md1_2 (may_p mb1_2).2 (may_p mb1_2).1 (calM 2) rfl (i := 0) rfl (by decide) 0
  (inn_make0 md1_2 (wel_of mb1_2).clo (by decide +kernel) (calM 2) rfl (i := 0) rfl (by decide) (gm := 2) rfl (by decide) (by decide) (by decide) (by decide +kernel) (d := 1) (t := ⟨#[102]⟩) (by kernel_rfl) (k := 0) (by kernel_rfl) (by decide) rfl (by decide) (by decide +kernel) (by decide +kernel) (by kernel_rfl) (bt := bktN ⟨#[102]⟩) (by kernel_rfl) (by decide +kernel) (by kernel_rfl))⟩
theorem mk1_4 : DoM (calM 4) (mS1 4) (mS1 5) :=
 ⟨0, fun w p h => r_Do (calM 4) 0 fun W kW => r_do0 (h.kept kW) md1_4 (may_p mb1_4).2 (may_p mb1_4).1 (calM 4) rfl (i := 0) rfl (by decide) 0
  (inn_make0 md1_4 (wel_of mb1_4).clo (by decide +kernel) (calM 4) rfl (i := 0) rfl (by decide) (gm := 3) rfl (by decide) (by decide) (by decide) (by decide +kernel) (d := 2) (t := ⟨#[104]⟩) (by kernel_rfl) (k := 1) (by kernel_rfl) (by decide) rfl (by decide) (by decide +kernel) (by decide +kernel) (by kernel_rfl) (bt := bktN ⟨#[104]⟩) (by kernel_rfl) (by decide +kernel) (by kernel_rfl))⟩
theorem mk1_3 : DoM (calM 3) (mS1 3) (mS1 4) :=
 ⟨0, fun w p h => r_Do (calM 3) 0 fun W kW => r_do8 (h.kept kW) md1_3 (may_p mb1_3).2 (may_p mb1_3).1 (calM 3) rfl (i := 0) rfl (by decide) 0
  (inn_names (calM 3) (inn_link md1_3 (by decide) (wel_of mb1_3).clo (by decide +kernel) (calM 3) rfl (num := 18) (f := 3) (by kernel_rfl) (by kernel_rfl) (by decide) rfl (d := 1) (t := ⟨#[103]⟩) (by kernel_rfl) (k := 0) (by kernel_rfl) (by decide) rfl (by decide) (by decide +kernel) (by decide +kernel) (by kernel_rfl) (bt := bktN ⟨#[103]⟩) (by kernel_rfl) (by decide +kernel) (by kernel_rfl)))⟩
theorem mk1_5 : DoM (calM 5) (mS1 5) (mS1 6) :=
 ⟨0, fun w p h => r_Do (calM 5) 0 fun W kW => r_do2 (h.kept kW) md1_5 (may_p mb1_5).2 (may_p mb1_5).1 (calM 5) rfl (i := 0) rfl (by decide) 0
  (inn_open md1_5 (by decide) (wel_of mb1_5).clo (by decide +kernel) (calM 5) rfl (i := 0) rfl (num := 18) (k := 3) (by kernel_rfl) (by kernel_rfl) (by decide) rfl (by kernel_rfl))⟩
theorem mk1_6 : DoM (calM 6) (mS1 6) (mS1 7) :=
 ⟨10, fun w p h => r_Do (calM 6) 10 fun W kW => r_do5 (h.kept kW) md1_6 (may_p mb1_6).2 (may_p mb1_6).1 (calM 6) rfl (i := 0) rfl (by decide) 10
  (inn_write md1_6 (calM 6) rfl (i := 0) rfl (num := 18) (by kernel_rfl) (by decide) (k := 3) (by kernel_rfl) (by decide) rfl (a := 0) rfl (by decide) (by decide +kernel) (by decide) (by kernel_rfl))⟩
theorem l_made1 {w : World} : Calls Tryz.prog 10 #[.int .i64 1] w fun e w' => ∃ v1 v2 v3 ev, e = .returned (.agg #[v1, v2, v3]) ∧ Os w' w.heap.size v1 v2 v3 ev (mS1 7) ∧ Kept [] w w' := by
 refine r_made 1 mS1 (fun W => (r_New (n := 1) (by decide) (by decide)).mono ?_) ?_ ?_
 ·
  rintro e w' ⟨u1, u2, u3, eu, rfl, ho, k, -⟩
  exact ⟨u1, u2, u3, eu, rfl, ho, k⟩
 ·
  intro j hj
  have hc : j = 0 ∨ j = 1 ∨ j = 2 ∨ j = 3 ∨ j = 4 ∨ j = 5 ∨ j = 6 := by omega
  rcases hc with rfl | rfl | rfl | rfl | rfl | rfl | rfl
  · exact md1_0
  · exact md1_1
  · exact md1_2
  · exact md1_3
  · exact md1_4
  · exact md1_5
  · exact md1_6
 ·
  intro j hj
  have hc : j = 0 ∨ j = 1 ∨ j = 2 ∨ j = 3 ∨ j = 4 ∨ j = 5 ∨ j = 6 := by omega
  rcases hc with rfl | rfl | rfl | rfl | rfl | rfl | rfl
  · exact mk1_0
  · exact mk1_1
  · exact mk1_2
  · exact mk1_3
  · exact mk1_4
  · exact mk1_5
  · exact mk1_6
def mS3 : Nat → Sta
 | 0 => ⟨[⟨1, true, [], ⟨#[]⟩⟩], [], [0, 0, 0]⟩
 | 1 => ⟨[⟨1, true, [(⟨#[100]⟩, 2)], ⟨#[]⟩⟩, ⟨2, true, [], ⟨#[]⟩⟩], [], [1, 0, 0]⟩
 | 2 => ⟨[⟨1, true, [(⟨#[100]⟩, 2), (⟨#[101]⟩, 10)], ⟨#[]⟩⟩, ⟨2, true, [], ⟨#[]⟩⟩, ⟨10, true, [], ⟨#[]⟩⟩], [], [2, 0, 0]⟩
 | 3 => ⟨[⟨1, true, [(⟨#[100]⟩, 2), (⟨#[101]⟩, 10), (⟨#[102]⟩, 18)], ⟨#[]⟩⟩, ⟨2, true, [], ⟨#[]⟩⟩, ⟨10, true, [], ⟨#[]⟩⟩, ⟨18, false, [], ⟨#[]⟩⟩], [], [3, 0, 0]⟩
 | 4 => ⟨[⟨1, true, [(⟨#[100]⟩, 2), (⟨#[101]⟩, 10), (⟨#[102]⟩, 18), (⟨#[103]⟩, 18)], ⟨#[]⟩⟩, ⟨2, true, [], ⟨#[]⟩⟩, ⟨10, true, [], ⟨#[]⟩⟩, ⟨18, false, [], ⟨#[]⟩⟩], [], [3, 0, 0]⟩
 | 5 => ⟨[⟨1, true, [(⟨#[100]⟩, 2), (⟨#[101]⟩, 10), (⟨#[102]⟩, 18), (⟨#[103]⟩, 18)], ⟨#[]⟩⟩, ⟨2, true, [(⟨#[104]⟩, 26)], ⟨#[]⟩⟩, ⟨10, true, [], ⟨#[]⟩⟩, ⟨18, false, [], ⟨#[]⟩⟩, ⟨26, false, [], ⟨#[]⟩⟩], [], [4, 0, 0]⟩
 | 6 => ⟨[⟨1, true, [(⟨#[100]⟩, 2), (⟨#[101]⟩, 10), (⟨#[102]⟩, 18), (⟨#[103]⟩, 18)], ⟨#[]⟩⟩, ⟨2, true, [(⟨#[104]⟩, 26)], ⟨#[]⟩⟩, ⟨10, true, [], ⟨#[]⟩⟩, ⟨18, false, [], ⟨#[]⟩⟩, ⟨26, false, [], ⟨#[]⟩⟩], [(0, 0, 18)], [4, 0, 0]⟩
 | _ => ⟨[⟨1, true, [(⟨#[100]⟩, 2), (⟨#[101]⟩, 10), (⟨#[102]⟩, 18), (⟨#[103]⟩, 18)], ⟨#[]⟩⟩, ⟨2, true, [(⟨#[104]⟩, 26)], ⟨#[]⟩⟩, ⟨10, true, [], ⟨#[]⟩⟩, ⟨18, false, [], ⟨#[48, 49, 50, 51, 52, 53, 54, 55, 56, 57]⟩⟩, ⟨26, false, [], ⟨#[]⟩⟩], [(0, 0, 18)], [4, 0, 0]⟩
theorem mb3_0 : mayB (mS3 0) = true := by kernel_rfl
theorem md3_0 : Bd (mS3 0) := bd_of (by kernel_rfl)
theorem mb3_1 : mayB (mS3 1) = true := by kernel_rfl
theorem md3_1 : Bd (mS3 1) := bd_of (by kernel_rfl)
theorem mb3_2 : mayB (mS3 2) = true := by kernel_rfl
theorem md3_2 : Bd (mS3 2) := bd_of (by kernel_rfl)
theorem mb3_3 : mayB (mS3 3) = true := by kernel_rfl
theorem md3_3 : Bd (mS3 3) := bd_of (by kernel_rfl)
theorem mb3_4 : mayB (mS3 4) = true := by kernel_rfl
theorem md3_4 : Bd (mS3 4) := bd_of (by kernel_rfl)
theorem mb3_5 : mayB (mS3 5) = true := by kernel_rfl
theorem md3_5 : Bd (mS3 5) := bd_of (by kernel_rfl)
theorem mb3_6 : mayB (mS3 6) = true := by kernel_rfl
theorem md3_6 : Bd (mS3 6) := bd_of (by kernel_rfl)
theorem mk3_0 : DoM (calM 0) (mS3 0) (mS3 1) :=
 ⟨0, fun w p h => r_Do (calM 0) 0 fun W kW => r_do1 (h.kept kW) md3_0 (may_p mb3_0).2 (may_p mb3_0).1 (calM 0) rfl (i := 0) rfl (by decide) 0
  (inn_make1 md3_0 (wel_of mb3_0).clo (by decide +kernel) (calM 0) rfl (i := 0) rfl (by decide) (gm := 0) rfl (by decide) (by decide) (by decide) (by decide +kernel) (d := 1) (t := ⟨#[100]⟩) (by kernel_rfl) (k := 0) (by kernel_rfl) (by decide) rfl (by decide) (by decide +kernel) (by decide +kernel) (by kernel_rfl) (bt := bktN ⟨#[100]⟩) (by kernel_rfl) (by decide +kernel) (by kernel_rfl))⟩
theorem mk3_1 : DoM (calM 1) (mS3 1) (mS3 2) :=
 ⟨0, fun w p h => r_Do (calM 1) 0 fun W kW => r_do1 (h.kept kW) md3_1 (may_p mb3_1).2 (may_p mb3_1).1 (calM 1) rfl (i := 0) rfl (by decide) 0
  (inn_make1 md3_1 (wel_of mb3_1).clo (by decide +kernel) (calM 1) rfl (i := 0) rfl (by decide) (gm := 1) rfl (by decide) (by decide) (by decide) (by decide +kernel) (d := 1) (t := ⟨#[101]⟩) (by kernel_rfl) (k := 0) (by kernel_rfl) (by decide) rfl (by decide) (by decide +kernel) (by decide +kernel) (by kernel_rfl) (bt := bktN ⟨#[101]⟩) (by kernel_rfl) (by decide +kernel) (by kernel_rfl))⟩
theorem mk3_2 : DoM (calM 2) (mS3 2) (mS3 3) :=
 ⟨0, fun w p h => r_Do (calM 2) 0 fun W kW => r_do0 (h.kept kW) md3_2 (may_p mb3_2).2 (may_p mb3_2).1 (calM 2) rfl (i := 0) rfl (by decide) 0
  (inn_make0 md3_2 (wel_of mb3_2).clo (by decide +kernel) (calM 2) rfl (i := 0) rfl (by decide) (gm := 2) rfl (by decide) (by decide) (by decide) (by decide +kernel) (d := 1) (t := ⟨#[102]⟩) (by kernel_rfl) (k := 0) (by kernel_rfl) (by decide) rfl (by decide) (by decide +kernel) (by decide +kernel) (by kernel_rfl) (bt := bktN ⟨#[102]⟩) (by kernel_rfl) (by decide +kernel) (by kernel_rfl))⟩
theorem mk3_4 : DoM (calM 4) (mS3 4) (mS3 5) :=
 ⟨0, fun w p h => r_Do (calM 4) 0 fun W kW => r_do0 (h.kept kW) md3_4 (may_p mb3_4).2 (may_p mb3_4).1 (calM 4) rfl (i := 0) rfl (by decide) 0
  (inn_make0 md3_4 (wel_of mb3_4).clo (by decide +kernel) (calM 4) rfl (i := 0) rfl (by decide) (gm := 3) rfl (by decide) (by decide) (by decide) (by decide +kernel) (d := 2) (t := ⟨#[104]⟩) (by kernel_rfl) (k := 1) (by kernel_rfl) (by decide) rfl (by decide) (by decide +kernel) (by decide +kernel) (by kernel_rfl) (bt := bktN ⟨#[104]⟩) (by kernel_rfl) (by decide +kernel) (by kernel_rfl))⟩
theorem mk3_3 : DoM (calM 3) (mS3 3) (mS3 4) :=
 ⟨0, fun w p h => r_Do (calM 3) 0 fun W kW => r_do8 (h.kept kW) md3_3 (may_p mb3_3).2 (may_p mb3_3).1 (calM 3) rfl (i := 0) rfl (by decide) 0
  (inn_names (calM 3) (inn_link md3_3 (by decide) (wel_of mb3_3).clo (by decide +kernel) (calM 3) rfl (num := 18) (f := 3) (by kernel_rfl) (by kernel_rfl) (by decide) rfl (d := 1) (t := ⟨#[103]⟩) (by kernel_rfl) (k := 0) (by kernel_rfl) (by decide) rfl (by decide) (by decide +kernel) (by decide +kernel) (by kernel_rfl) (bt := bktN ⟨#[103]⟩) (by kernel_rfl) (by decide +kernel) (by kernel_rfl)))⟩
theorem mk3_5 : DoM (calM 5) (mS3 5) (mS3 6) :=
 ⟨0, fun w p h => r_Do (calM 5) 0 fun W kW => r_do2 (h.kept kW) md3_5 (may_p mb3_5).2 (may_p mb3_5).1 (calM 5) rfl (i := 0) rfl (by decide) 0
  (inn_open md3_5 (by decide) (wel_of mb3_5).clo (by decide +kernel) (calM 5) rfl (i := 0) rfl (num := 18) (k := 3) (by kernel_rfl) (by kernel_rfl) (by decide) rfl (by kernel_rfl))⟩
theorem mk3_6 : DoM (calM 6) (mS3 6) (mS3 7) :=
 ⟨10, fun w p h => r_Do (calM 6) 10 fun W kW => r_do5 (h.kept kW) md3_6 (may_p mb3_6).2 (may_p mb3_6).1 (calM 6) rfl (i := 0) rfl (by decide) 10
  (inn_write md3_6 (calM 6) rfl (i := 0) rfl (num := 18) (by kernel_rfl) (by decide) (k := 3) (by kernel_rfl) (by decide) rfl (a := 0) rfl (by decide) (by decide +kernel) (by decide) (by kernel_rfl))⟩
theorem l_made3 {w : World} : Calls Tryz.prog 10 #[.int .i64 3] w fun e w' => ∃ v1 v2 v3 ev, e = .returned (.agg #[v1, v2, v3]) ∧ Os w' w.heap.size v1 v2 v3 ev (mS3 7) ∧ Kept [] w w' := by
 refine r_made 3 mS3 (fun W => (r_New (n := 3) (by decide) (by decide)).mono ?_) ?_ ?_
 ·
  rintro e w' ⟨u1, u2, u3, eu, rfl, ho, k, -⟩
  exact ⟨u1, u2, u3, eu, rfl, ho, k⟩
 ·
  intro j hj
  have hc : j = 0 ∨ j = 1 ∨ j = 2 ∨ j = 3 ∨ j = 4 ∨ j = 5 ∨ j = 6 := by omega
  rcases hc with rfl | rfl | rfl | rfl | rfl | rfl | rfl
  · exact md3_0
  · exact md3_1
  · exact md3_2
  · exact md3_3
  · exact md3_4
  · exact md3_5
  · exact md3_6
 ·
  intro j hj
  have hc : j = 0 ∨ j = 1 ∨ j = 2 ∨ j = 3 ∨ j = 4 ∨ j = 5 ∨ j = 6 := by omega
  rcases hc with rfl | rfl | rfl | rfl | rfl | rfl | rfl
  · exact mk3_0
  · exact mk3_1
  · exact mk3_2
  · exact mk3_3
  · exact mk3_4
  · exact mk3_5
  · exact mk3_6
theorem formsL {w : World} {H : Nat} {v1 v2 v3 : Value} {ev : List Value} {S : Sta} (h : Os w H v1 v2 v3 ev S) (a b c : Nat) (ha : S.ino.length = a) (hb : S.opn.length = b) (hc : S.made.length = c) : ∃ p m q n r t, v1 = .slice p a m ∧ v2 = .slice q b n ∧ v3 = .slice r c t := by
 subst ha hb hc
 obtain ⟨p, m, hu, -⟩ := row_form h.ino
 obtain ⟨q, n, hv, -⟩ := row_form h.opn
 obtain ⟨r, t, hw, -⟩ := row_form h.mad
 exact ⟨p, m, q, n, r, t, hu, hv, hw⟩
end Go.Proofs.YtjneoegbknclgaaGreatDoor
