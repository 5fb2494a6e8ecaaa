/-
  Joined of my texts Ms Lk Rm Kw Kx Tz Ky Kz.
-/
import Derived.Test.YtffncojcnbhblaaGreatDoorJd42
import Derived.Test.YtffncojcnbhblaaGreatDoorJd43
import Derived.Test.YtffncojcnbhblaaGreatDoorJd40
import Derived.Test.YtffncojcnbhblaaGreatDoorJd28
import Derived.Test.YtffncojcnbhblaaGreatDoorJd41
import Derived.Test.YtffncojcnbhblaaGreatDoorJd27
set_option linter.unusedVariables false
set_option linter.unusedSimpArgs false
set_option maxRecDepth 100000
set_option maxHeartbeats 8000000
namespace Go.Proofs.YtffncojcnbhblaaGreatDoor
open Go.RowKit
def bktN (t : ByteArray) : Nat := (bkt t).toNat
theorem row_some {w : World} {H : Nat} {T : TypeId} {k : Nat} {v : Value} {n : Nat} {xs : List Value} (h : w.ownsRow H T k v n xs) (hn : 0 < n) : ∃ g c, v = .slice (some ⟨g, 0, none⟩) n c := by
 rcases h.2 with ⟨rfl, rfl⟩ | ⟨g, cap, cur, rfl, -⟩
 · omega
 · exact ⟨g, cap, rfl⟩
theorem inn_make0 {S S' : Sta} (hb : Bd S) (hc : Clo S.ino) (hz : ∀ x ∈ S.ino, ∀ e ∈ x.ents, e.2 ≠ 0) (c : Cal) (hck : c.kind = 0) {i : Nat} (hci : c.core = (i : Int)) (hil : i < S.made.length) {gm : Int} (hgm : S.made[i] = gm) (hg0 : 0 ≤ gm) (hg1 : gm < 32) (hi8 : i < 8) (hab : ∀ x ∈ S.ino, x.num < 2 + (i : Int) + 8 * gm)
  {d : Int} {t : ByteArray} (hsp : spotR S.ino c.path = .ok (d, t)) {k : Nat} (hak : atR S.ino d = some k) (hk : k < S.ino.length) {E : List En} (hE : (S.ino[k]).ents = E) (ht : t.size ≤ 12) (hsz : ∀ e ∈ E, e.1.size ≤ 12 ∧ e.1.toList ≠ []) (hno : ∀ e ∈ E, e.1 ≠ t) (hen : entryR S.ino d t = 0) {bt : Nat} (hbt : bkt t = (bt : Int)) (hroom : ¬ 4 ≤ inB E bt)
  (hS : ⟨(setE ⟨S.ino, S.opn, S.made.set i (gm + 1)⟩ k hk (insR ltE E (t, (2 + (i : Int) + 8 * gm)))).ino ++ [⟨(2 + (i : Int) + 8 * gm), c.kind == 1, [], ⟨#[]⟩⟩], S.opn, S.made.set i (gm + 1)⟩ = S') :
  Inn 61 [.agg #[.int .i64 0, .int .i64 (i : Int), .int .i64 c.fd, .int .i64 c.off, .int .i64 c.num, .string c.path, .string c.path2, .string c.data]] (.agg #[.int .i64 0, .int .i64 0, .int .i64 0, .bool false, .string ⟨#[]⟩, .slice none 0 0]) S S' := by
 intro w0 w X v1 v2 v3 ev h
 obtain ⟨g, c1, rfl⟩ := row_some h.os.ino (by omega)
 obtain ⟨a2, c2, rfl, -⟩ := row_form h.os.opn
 obtain ⟨g3, c3, rfl⟩ := row_some h.os.mad (by omega)
 have h1 := r_make1 h hb hc hz c hci hil hgm hg0 hg1 hi8 hab hsp hak hk hE ht hsz hno hen hbt hroom
 rw [hck, hci] at h1
 refine h1.mono ?_
 rintro e w' ⟨rfl, a1', c1', ev', h', k'⟩
 rw [hck] at hS
 refine ⟨rfl, _, _, _, _, [g, g3, X], hS ▸ h', k', fun x hx => ?_⟩
 simp only [List.mem_cons, List.not_mem_nil, or_false] at hx
 rcases hx with rfl | rfl | rfl
 · exact Or.inr fun ho => (ho _ (by simp)).1 rfl
 · exact Or.inr fun ho => (ho _ (by simp)).2.2.1 rfl
 · exact Or.inl rfl
theorem inn_make1 {S S' : Sta} (hb : Bd S) (hc : Clo S.ino) (hz : ∀ x ∈ S.ino, ∀ e ∈ x.ents, e.2 ≠ 0) (c : Cal) (hck : c.kind = 1) {i : Nat} (hci : c.core = (i : Int)) (hil : i < S.made.length) {gm : Int} (hgm : S.made[i] = gm) (hg0 : 0 ≤ gm) (hg1 : gm < 32) (hi8 : i < 8) (hab : ∀ x ∈ S.ino, x.num < 2 + (i : Int) + 8 * gm)
  {d : Int} {t : ByteArray} (hsp : spotR S.ino c.path = .ok (d, t)) {k : Nat} (hak : atR S.ino d = some k) (hk : k < S.ino.length) {E : List En} (hE : (S.ino[k]).ents = E) (ht : t.size ≤ 12) (hsz : ∀ e ∈ E, e.1.size ≤ 12 ∧ e.1.toList ≠ []) (hno : ∀ e ∈ E, e.1 ≠ t) (hen : entryR S.ino d t = 0) {bt : Nat} (hbt : bkt t = (bt : Int)) (hroom : ¬ 4 ≤ inB E bt)
  (hS : ⟨(setE ⟨S.ino, S.opn, S.made.set i (gm + 1)⟩ k hk (insR ltE E (t, (2 + (i : Int) + 8 * gm)))).ino ++ [⟨(2 + (i : Int) + 8 * gm), c.kind == 1, [], ⟨#[]⟩⟩], S.opn, S.made.set i (gm + 1)⟩ = S') :
  Inn 61 [.agg #[.int .i64 1, .int .i64 (i : Int), .int .i64 c.fd, .int .i64 c.off, .int .i64 c.num, .string c.path, .string c.path2, .string c.data]] (.agg #[.int .i64 0, .int .i64 0, .int .i64 0, .bool false, .string ⟨#[]⟩, .slice none 0 0]) S S' := by
 intro w0 w X v1 v2 v3 ev h
 obtain ⟨g, c1, rfl⟩ := row_some h.os.ino (by omega)
 obtain ⟨a2, c2, rfl, -⟩ := row_form h.os.opn
 obtain ⟨g3, c3, rfl⟩ := row_some h.os.mad (by omega)
 have h1 := r_make1 h hb hc hz c hci hil hgm hg0 hg1 hi8 hab hsp hak hk hE ht hsz hno hen hbt hroom
 rw [hck, hci] at h1
 refine h1.mono ?_
 rintro e w' ⟨rfl, a1', c1', ev', h', k'⟩
 rw [hck] at hS
 refine ⟨rfl, _, _, _, _, [g, g3, X], hS ▸ h', k', fun x hx => ?_⟩
 simp only [List.mem_cons, List.not_mem_nil, or_false] at hx
 rcases hx with rfl | rfl | rfl
 · exact Or.inr fun ho => (ho _ (by simp)).1 rfl
 · exact Or.inr fun ho => (ho _ (by simp)).2.2.1 rfl
 · exact Or.inl rfl
theorem inn_link {S S' : Sta} (hb : Bd S) (hne : 0 < S.ino.length) (hc : Clo S.ino) (hz : ∀ x ∈ S.ino, ∀ e ∈ x.ents, e.2 ≠ 0) (c : Cal) (hck : c.kind = 8) {num : Int} {f : Nat} (hf : findR S.ino c.path = (num, 0)) (hat : atR S.ino num = some f) (hfl : f < S.ino.length) (hd : (S.ino[f]).dir = false)
  {d : Int} {t : ByteArray} (hsp : spotR S.ino c.path2 = .ok (d, t)) {k : Nat} (hak : atR S.ino d = some k) (hk : k < S.ino.length) {E : List En} (hE : (S.ino[k]).ents = E) (ht : t.size ≤ 12) (hsz : ∀ e ∈ E, e.1.size ≤ 12 ∧ e.1.toList ≠ []) (hno : ∀ e ∈ E, e.1 ≠ t) (hen : entryR S.ino d t = 0) {bt : Nat} (hbt : bkt t = (bt : Int)) (hroom : ¬ 4 ≤ inB E bt)
  (hS : setE S k hk (insR ltE E (t, num)) = S') :
  Inn 99 [.agg #[.int .i64 8, .int .i64 c.core, .int .i64 c.fd, .int .i64 c.off, .int .i64 c.num, .string c.path, .string c.path2, .string c.data]] (.agg #[.int .i64 0, .int .i64 0, .int .i64 0, .bool false, .string ⟨#[]⟩, .slice none 0 0]) S S' := by
 intro w0 w X v1 v2 v3 ev h
 obtain ⟨g, c1, rfl⟩ := row_some h.os.ino hne
 obtain ⟨a2, c2, rfl, -⟩ := row_form h.os.opn
 obtain ⟨a3, c3, rfl, -⟩ := row_form h.os.mad
 have h1 := r_link h hb hc hz c hf hat hfl hd hsp hak hk hE ht hsz hno hen hbt hroom
 rw [hck] at h1
 refine h1.mono ?_
 rintro e w' ⟨rfl, ev', h', k'⟩
 refine ⟨rfl, _, _, _, _, [g], hS ▸ h', k', fun x hx => ?_⟩
 simp only [List.mem_cons, List.not_mem_nil, or_false] at hx
 subst hx
 exact Or.inr fun ho => (ho _ (by simp)).1 rfl
theorem inn_open {L : List Ino} {M : List Int} {S' : Sta} (hb : Bd ⟨L, [], M⟩) (hne : 0 < L.length) (hc : Clo L) (hz : ∀ x ∈ L, ∀ e ∈ x.ents, e.2 ≠ 0) (c : Cal) (hck : c.kind = 2) {i : Nat} (hci : c.core = (i : Int)) {num : Int} {k : Nat} (hf : findR L c.path = (num, 0)) (hat : atR L num = some k) (hk : k < L.length) (hd : (L[k]).dir = false) (hS : ⟨L, [((i : Int), 0, num)], M⟩ = S') :
  Inn 62 [.agg #[.int .i64 2, .int .i64 (i : Int), .int .i64 c.fd, .int .i64 c.off, .int .i64 c.num, .string c.path, .string c.path2, .string c.data], .int .i64 (-1)] (.tuple #[.agg #[.int .i64 0, .int .i64 0, .int .i64 0, .bool false, .string ⟨#[]⟩, .slice none 0 0], .bool true]) ⟨L, [], M⟩ S' := by
 intro w0 w X v1 v2 v3 ev h
 obtain ⟨g, c1, rfl⟩ := row_some h.os.ino hne
 obtain ⟨a2, c2, rfl, -⟩ := row_form h.os.opn
 obtain ⟨a3, c3, rfl, -⟩ := row_form h.os.mad
 have h1 := r_opened h hb hc hz c hf hat hk hd
 rw [hck, hci] at h1
 refine h1.mono ?_
 rintro e w' ⟨rfl, a2', c2', h', k'⟩
 refine ⟨rfl, _, _, _, _, [X], hS ▸ h', k', fun x hx => ?_⟩
 simp only [List.mem_cons, List.not_mem_nil, or_false] at hx
 exact Or.inl hx
theorem inn_write {S S' : Sta} (hb : Bd S) (c : Cal) (hck : c.kind = 5) {i : Nat} (hci : c.core = (i : Int)) {num : Int} (hfd : fdR S.opn c.core c.fd = num) (hnz : num ≠ 0) {k : Nat} (hat : atR S.ino num = some k) (hk : k < S.ino.length) {D : ByteArray} (hD : (S.ino[k]).data = D) {a : Nat} (ho : c.off = (a : Int)) (hz6 : 0 < c.data.size) (hne : c.data.toList.isEmpty = false) (hq6 : a + c.data.size ≤ 256) (hS : setD S k hk (strOfNums (writeQ D c.data a)) = S') :
  Inn 63 [.agg #[.int .i64 5, .int .i64 (i : Int), .int .i64 c.fd, .int .i64 c.off, .int .i64 c.num, .string c.path, .string c.path2, .string c.data]] (.agg #[.int .i64 0, .int .i64 0, .int .i64 (c.data.size : Int), .bool false, .string ⟨#[]⟩, .slice none 0 0]) S S' := by
 intro w0 w X v1 v2 v3 ev h
 obtain ⟨g, c1, rfl⟩ := row_some h.os.ino (by omega)
 obtain ⟨a2, c2, rfl, -⟩ := row_form h.os.opn
 obtain ⟨a3, c3, rfl, -⟩ := row_form h.os.mad
 have h1 := r_write h hb c hck hfd hnz hat hk hD ho hz6 hne hq6
 rw [hck, hci] at h1
 refine h1.mono ?_
 rintro e w' ⟨rfl, h', k'⟩
 refine ⟨rfl, _, _, _, _, [g], hS ▸ h', k', fun x hx => ?_⟩
 simp only [List.mem_cons, List.not_mem_nil, or_false] at hx
 subst hx
 exact Or.inr fun ho => (ho _ (by simp)).1 rfl
def mS1 : Nat → Sta
 | 0 => ⟨[⟨1, true, [], ⟨#[]⟩⟩], [], [0]⟩
 | 1 => ⟨[⟨1, true, [(⟨#[100]⟩, 2)], ⟨#[]⟩⟩, ⟨2, true, [], ⟨#[]⟩⟩], [], [1]⟩
 | 2 => ⟨[⟨1, true, [(⟨#[100]⟩, 2), (⟨#[101]⟩, 10)], ⟨#[]⟩⟩, ⟨2, true, [], ⟨#[]⟩⟩, ⟨10, true, [], ⟨#[]⟩⟩], [], [2]⟩
 | 3 => ⟨[⟨1, true, [(⟨#[100]⟩, 2), (⟨#[101]⟩, 10), (⟨#[102]⟩, 18)], ⟨#[]⟩⟩, ⟨2, true, [], ⟨#[]⟩⟩, ⟨10, true, [], ⟨#[]⟩⟩, ⟨18, false, [], ⟨#[]⟩⟩], [], [3]⟩
 | 4 => ⟨[⟨1, true, [(⟨#[100]⟩, 2), (⟨#[101]⟩, 10), (⟨#[102]⟩, 18), (⟨#[103]⟩, 18)], ⟨#[]⟩⟩, ⟨2, true, [], ⟨#[]⟩⟩, ⟨10, true, [], ⟨#[]⟩⟩, ⟨18, false, [], ⟨#[]⟩⟩], [], [3]⟩
 | 5 => ⟨[⟨1, true, [(⟨#[100]⟩, 2), (⟨#[101]⟩, 10), (⟨#[102]⟩, 18), (⟨#[103]⟩, 18)], ⟨#[]⟩⟩, ⟨2, true, [(⟨#[104]⟩, 26)], ⟨#[]⟩⟩, ⟨10, true, [], ⟨#[]⟩⟩, ⟨18, false, [], ⟨#[]⟩⟩, ⟨26, false, [], ⟨#[]⟩⟩], [], [4]⟩
 | 6 => ⟨[⟨1, true, [(⟨#[100]⟩, 2), (⟨#[101]⟩, 10), (⟨#[102]⟩, 18), (⟨#[103]⟩, 18)], ⟨#[]⟩⟩, ⟨2, true, [(⟨#[104]⟩, 26)], ⟨#[]⟩⟩, ⟨10, true, [], ⟨#[]⟩⟩, ⟨18, false, [], ⟨#[]⟩⟩, ⟨26, false, [], ⟨#[]⟩⟩], [(0, 0, 18)], [4]⟩
 | _ => ⟨[⟨1, true, [(⟨#[100]⟩, 2), (⟨#[101]⟩, 10), (⟨#[102]⟩, 18), (⟨#[103]⟩, 18)], ⟨#[]⟩⟩, ⟨2, true, [(⟨#[104]⟩, 26)], ⟨#[]⟩⟩, ⟨10, true, [], ⟨#[]⟩⟩, ⟨18, false, [], ⟨#[48, 49, 50, 51, 52, 53, 54, 55, 56, 57]⟩⟩, ⟨26, false, [], ⟨#[]⟩⟩], [(0, 0, 18)], [4]⟩
theorem mb1_0 : mayB (mS1 0) = true := by kernel_rfl
theorem md1_0 : Bd (mS1 0) := bd_of (by kernel_rfl)
theorem mb1_1 : mayB (mS1 1) = true := by kernel_rfl
theorem md1_1 : Bd (mS1 1) := bd_of (by kernel_rfl)
theorem mb1_2 : mayB (mS1 2) = true := by kernel_rfl
theorem md1_2 : Bd (mS1 2) := bd_of (by kernel_rfl)
theorem mb1_3 : mayB (mS1 3) = true := by kernel_rfl
theorem md1_3 : Bd (mS1 3) := bd_of (by kernel_rfl)
theorem mb1_4 : mayB (mS1 4) = true := by kernel_rfl
theorem md1_4 : Bd (mS1 4) := bd_of (by kernel_rfl)
theorem mb1_5 : mayB (mS1 5) = true := by kernel_rfl
theorem md1_5 : Bd (mS1 5) := bd_of (by kernel_rfl)
theorem mb1_6 : mayB (mS1 6) = true := by kernel_rfl
theorem md1_6 : Bd (mS1 6) := bd_of (by kernel_rfl)
theorem mb1_7 : mayB (mS1 7) = true := by kernel_rfl
theorem md1_7 : Bd (mS1 7) := bd_of (by kernel_rfl)
theorem mk1_0 : DoM (calM 0) (mS1 0) (mS1 1) :=
 ⟨0, fun w p h => r_Do (calM 0) 0 fun W kW => r_do1 (h.kept kW) md1_0 (may_p mb1_0).2 (may_p mb1_0).1 (calM 0) rfl (i := 0) rfl (by decide) 0
  (inn_make1 md1_0 (wel_of mb1_0).clo (by decide +kernel) (calM 0) rfl (i := 0) rfl (by decide) (gm := 0) rfl (by decide) (by decide) (by decide) (by decide +kernel) (d := 1) (t := ⟨#[100]⟩) (by kernel_rfl) (k := 0) (by kernel_rfl) (by decide) rfl (by decide) (by decide +kernel) (by decide +kernel) (by kernel_rfl) (bt := bktN ⟨#[100]⟩) (by kernel_rfl) (by decide +kernel) (by kernel_rfl))⟩
theorem mk1_1 : DoM (calM 1) (mS1 1) (mS1 2) :=
 ⟨0, fun w p h => r_Do (calM 1) 0 fun W kW => r_do1 (h.kept kW) md1_1 (may_p mb1_1).2 (may_p mb1_1).1 (calM 1) rfl (i := 0) rfl (by decide) 0
  (inn_make1 md1_1 (wel_of mb1_1).clo (by decide +kernel) (calM 1) rfl (i := 0) rfl (by decide) (gm := 1) rfl (by decide) (by decide) (by decide) (by decide +kernel) (d := 1) (t := ⟨#[101]⟩) (by kernel_rfl) (k := 0) (by kernel_rfl) (by decide) rfl (by decide) (by decide +kernel) (by decide +kernel) (by kernel_rfl) (bt := bktN ⟨#[101]⟩) (by kernel_rfl) (by decide +kernel) (by kernel_rfl))⟩
theorem mk1_2 : DoM (calM 2) (mS1 2) (mS1 3) :=
 ⟨0, fun w p h => r_Do (calM 2) 0 fun W kW => r_do0 (h.kept kW) md1_2 (may_p mb1_2).2 (may_p mb1_2).1 (calM 2) rfl (i := 0) rfl (by decide) 0
  (inn_make0 md1_2 (wel_of mb1_2).clo (by decide +kernel) (calM 2) rfl (i := 0) rfl (by decide) (gm := 2) rfl (by decide) (by decide) (by decide) (by decide +kernel) (d := 1) (t := ⟨#[102]⟩) (by kernel_rfl) (k := 0) (by kernel_rfl) (by decide) rfl (by decide) (by decide +kernel) (by decide +kernel) (by kernel_rfl) (bt := bktN ⟨#[102]⟩) (by kernel_rfl) (by decide +kernel) (by kernel_rfl))⟩
theorem mk1_4 : DoM (calM 4) (mS1 4) (mS1 5) :=
 ⟨0, fun w p h => r_Do (calM 4) 0 fun W kW => r_do0 (h.kept kW) md1_4 (may_p mb1_4).2 (may_p mb1_4).1 (calM 4) rfl (i := 0) rfl (by decide) 0
  (inn_make0 md1_4 (wel_of mb1_4).clo (by decide +kernel) (calM 4) rfl (i := 0) rfl (by decide) (gm := 3) rfl (by decide) (by decide) (by decide) (by decide +kernel) (d := 2) (t := ⟨#[104]⟩) (by kernel_rfl) (k := 1) (by kernel_rfl) (by decide) rfl (by decide) (by decide +kernel) (by decide +kernel) (by kernel_rfl) (bt := bktN ⟨#[104]⟩) (by kernel_rfl) (by decide +kernel) (by kernel_rfl))⟩
theorem mk1_3 : DoM (calM 3) (mS1 3) (mS1 4) :=
 ⟨0, fun w p h => r_Do (calM 3) 0 fun W kW => r_do8 (h.kept kW) md1_3 (may_p mb1_3).2 (may_p mb1_3).1 (calM 3) rfl (i := 0) rfl (by decide) 0
  (inn_names (calM 3) (inn_link md1_3 (by decide) (wel_of mb1_3).clo (by decide +kernel) (calM 3) rfl (num := 18) (f := 3) (by kernel_rfl) (by kernel_rfl) (by decide) rfl (d := 1) (t := ⟨#[103]⟩) (by kernel_rfl) (k := 0) (by kernel_rfl) (by decide) rfl (by decide) (by decide +kernel) (by decide +kernel) (by kernel_rfl) (bt := bktN ⟨#[103]⟩) (by kernel_rfl) (by decide +kernel) (by kernel_rfl)))⟩
theorem mk1_5 : DoM (calM 5) (mS1 5) (mS1 6) :=
 ⟨0, fun w p h => r_Do (calM 5) 0 fun W kW => r_do2 (h.kept kW) md1_5 (may_p mb1_5).2 (may_p mb1_5).1 (calM 5) rfl (i := 0) rfl (by decide) 0
  (inn_open md1_5 (by decide) (wel_of mb1_5).clo (by decide +kernel) (calM 5) rfl (i := 0) rfl (num := 18) (k := 3) (by kernel_rfl) (by kernel_rfl) (by decide) rfl (by kernel_rfl))⟩
theorem mk1_6 : DoM (calM 6) (mS1 6) (mS1 7) :=
 ⟨10, fun w p h => r_Do (calM 6) 10 fun W kW => r_do5 (h.kept kW) md1_6 (may_p mb1_6).2 (may_p mb1_6).1 (calM 6) rfl (i := 0) rfl (by decide) 10
  (inn_write md1_6 (calM 6) rfl (i := 0) rfl (num := 18) (by kernel_rfl) (by decide) (k := 3) (by kernel_rfl) (by decide) rfl (a := 0) rfl (by decide) (by decide +kernel) (by decide) (by kernel_rfl))⟩
theorem l_made1 {w : World} : Calls Tryz.prog 8 #[.int .i64 1] w fun e w' => ∃ v1 v2 v3 ev, e = .returned (.agg #[v1, v2, v3]) ∧ Os w' w.heap.size v1 v2 v3 ev (mS1 7) ∧ Kept [] w w' := by
 refine r_made 1 mS1 (fun W => (r_New (n := 1) (by decide) (by decide)).mono ?_) ?_ ?_
 ·
  rintro e w' ⟨u1, u2, u3, eu, rfl, ho, k, -⟩
  exact ⟨u1, u2, u3, eu, rfl, ho, k⟩
 ·
  intro j hj
  have hc : j = 0 ∨ j = 1 ∨ j = 2 ∨ j = 3 ∨ j = 4 ∨ j = 5 ∨ j = 6 := by omega
  rcases hc with rfl | rfl | rfl | rfl | rfl | rfl | rfl
  · exact md1_0
  · exact md1_1
  · exact md1_2
  · exact md1_3
  · exact md1_4
  · exact md1_5
  · exact md1_6
 ·
  intro j hj
  have hc : j = 0 ∨ j = 1 ∨ j = 2 ∨ j = 3 ∨ j = 4 ∨ j = 5 ∨ j = 6 := by omega
  rcases hc with rfl | rfl | rfl | rfl | rfl | rfl | rfl
  · exact mk1_0
  · exact mk1_1
  · exact mk1_2
  · exact mk1_3
  · exact mk1_4
  · exact mk1_5
  · exact mk1_6
theorem formsL {w : World} {H : Nat} {v1 v2 v3 : Value} {ev : List Value} {S : Sta} (h : Os w H v1 v2 v3 ev S) (a b c : Nat) (ha : S.ino.length = a) (hb : S.opn.length = b) (hc : S.made.length = c) : ∃ p m q n r t, v1 = .slice p a m ∧ v2 = .slice q b n ∧ v3 = .slice r c t := by
 subst ha hb hc
 obtain ⟨p, m, hu, -⟩ := row_form h.ino
 obtain ⟨q, n, hv, -⟩ := row_form h.opn
 obtain ⟨r, t, hw, -⟩ := row_form h.mad
 exact ⟨p, m, q, n, r, t, hu, hv, hw⟩
def bare (x : Ino) : Int × Bool × List En := (x.num, x.dir, x.ents)
def Alike (L L' : List Ino) : Prop := L.map bare = L'.map bare
theorem Alike.symm {L L' : List Ino} (h : Alike L L') : Alike L' L := Eq.symm h
theorem des_file {S : Sta} {d : Ds} (h : desB S d = true) : ∃ k, atR S.ino d.2.2 = some k ∧ ∃ hk : k < S.ino.length, (S.ino[k]).dir = false := by
 unfold desB at h
 rw [Bool.and_eq_true] at h
 have h2 := h.2
 rcases ha : atR S.ino d.2.2 with _ | k
 · rw [ha] at h2; cases h2
 ·
  obtain ⟨hk, -⟩ := at_get ha
  rw [ha] at h2
  exact ⟨k, rfl, hk, by simpa [hk] using h2⟩
theorem at_isSome {L : List Ino} {z : Int} : (atR L z).isSome = true ↔ ∃ x ∈ L, x.num = z := by
 unfold atR
 rw [List.findIdx?_isSome]
 simp
theorem look_iff {L : List Ino} (h : adj ltI L = true) {x : Ino} (hx : x ∈ L) : look L x.num = some x := (look_mem h).2 ⟨hx, rfl⟩
theorem dir_iff {L : List Ino} (h : adj ltI L = true) {z : Int} : dirOf L z = true ↔ ∃ x ∈ L, x.num = z ∧ x.dir = true := by
 rw [look_dir]
 constructor
 ·
  intro e
  rcases hl : look L z with _ | x
  · rw [hl] at e; cases e
  ·
   rw [hl] at e
   obtain ⟨h1, h2⟩ := (look_mem h).1 hl
   exact ⟨x, h1, h2, e⟩
 ·
  rintro ⟨x, hx, rfl, hd⟩
  rw [look_iff h hx]
  exact hd
theorem ents_mem {L : List Ino} (h : adj ltI L = true) {x : Ino} (hx : x ∈ L) : entsOf L x.num = x.ents := by
 rw [look_ents, look_iff h hx]
 rfl
theorem kid_iff {L : List Ino} {y z : Int} : z ∈ kids L y ↔ (∃ e ∈ entsOf L y, e.2 = z) ∧ dirOf L z = true := by
 unfold kids kidsE
 rw [List.mem_map]
 constructor
 ·
  rintro ⟨e, he, rfl⟩
  rw [List.mem_filter] at he
  exact ⟨⟨e, he.1, rfl⟩, he.2⟩
 ·
  rintro ⟨⟨e, he, rfl⟩, hd⟩
  exact ⟨e, List.mem_filter.2 ⟨he, hd⟩, rfl⟩
theorem adj_set {L : List Ino} (h : adj ltI L = true) {j : Nat} (hj : j < L.length) {y : Ino} (hy : y.num = (L[j]).num) : adj ltI (L.set j y) = true := by
 rw [adj_iff] at h ⊢
 intro i hi
 rw [List.length_set] at hi
 have h1 := h i hi
 unfold ltI at h1 ⊢
 have e : ∀ k (hk : k < L.length), ((L.set j y)[k]'(by rw [List.length_set]; exact hk)).num = (L[k]).num := fun k hk => by
  rw [List.getElem_set]
  split
  · rename_i q; subst q; exact hy
  · rfl
 rw [e i (by omega), e (i + 1) hi]
 exact h1
theorem mem_set {L : List Ino} (h : adj ltI L = true) {j : Nat} (hj : j < L.length) {y x : Ino} : x ∈ L.set j y ↔ x = y ∨ (x ∈ L ∧ x.num ≠ (L[j]).num) := by
 constructor
 ·
  intro hx
  obtain ⟨k, hk, rfl⟩ := List.getElem_of_mem hx
  rw [List.length_set] at hk
  rw [List.getElem_set]
  split
  · exact Or.inl rfl
  ·
   rename_i q
   refine Or.inr ⟨List.getElem_mem hk, fun e => ?_⟩
   rcases Nat.lt_or_gt_of_ne q with a | a
   · have := adj_lt h j k hj hk a; omega
   · have := adj_lt h k j hk hj a; omega
 ·
  rintro (rfl | ⟨hx, hn⟩)
  · exact List.mem_set hj x
  ·
   obtain ⟨k, hk, rfl⟩ := List.getElem_of_mem hx
   have q : j ≠ k := fun e => by subst e; exact hn rfl
   have e : L[k] = (L.set j y)[k]'(by rw [List.length_set]; exact hk) := by rw [List.getElem_set, if_neg q]
   rw [e]
   exact List.getElem_mem _
theorem root_of {L : List Ino} (h : adj ltI L = true) (hp : ∀ x ∈ L, 1 ≤ x.num) {r : Ino} (hr : r ∈ L) (h1 : r.num = 1) (hd : r.dir = true) : ∃ x, L[0]? = some x ∧ x.num = 1 ∧ x.dir = true := by
 obtain ⟨k, hk, rfl⟩ := List.getElem_of_mem hr
 cases k with
 | zero => exact ⟨L[0], List.getElem?_eq_getElem hk, h1, hd⟩
 | succ k =>
  have a := adj_lt h 0 (k + 1) (by omega) hk (by omega)
  have b := hp _ (List.getElem_mem (show 0 < L.length by omega))
  omega
theorem inB_ins (E : List En) (e : En) (b : Nat) : inB (insR ltE E e) b = inB E b + if bkt e.1 = (b : Int) then 1 else 0 := by
 unfold inB insR
 have h : List.countP (fun e => bkt e.1 == (b : Int)) E = List.countP (fun e => bkt e.1 == (b : Int)) (E.take (whereR ltE E e)) + List.countP (fun e => bkt e.1 == (b : Int)) (E.drop (whereR ltE E e)) := by rw [← List.countP_append, List.take_append_drop]
 rw [List.countP_append, List.countP_cons, h]
 by_cases c : bkt e.1 = (b : Int)
 · simp [c]; omega
 · simp [c]
theorem pl_none {E : List En} {t : ByteArray} (h : (plR E t).isSome = false) : ∀ e ∈ E, e.1 ≠ t := fun e he q => by
 unfold plR at h
 rw [List.findIdx?_isSome] at h
 have := List.any_eq_false.1 h e he
 rw [q] at this
 simp at this
theorem entsB_ins {L L' : List Ino} {E : List En} (h : entsB L E = true) (hs : ∀ z, (atR L z).isSome = true → (atR L' z).isSome = true) {t : ByteArray} {z : Int} (hc : chk t = 0) (hz : z ≠ 1) (hl : (atR L' z).isSome = true) (hp : (plR E t).isSome = false) {d : Int} (hd : d ≠ 0) (hf : nFull E d t 0 ⟨#[]⟩ < 4) :
  entsB L' (insR ltE E (t, z)) = true := by
 unfold entsB at h ⊢
 rw [Bool.and_eq_true, Bool.and_eq_true] at h ⊢
 obtain ⟨⟨h1, h2⟩, h3⟩ := h
 refine ⟨⟨?_, ?_⟩, ?_⟩
 ·
  rw [List.all_eq_true] at h1 ⊢
  intro e he
  rcases mem_ins.1 he with rfl | he
  · unfold entB; simp [hc, hz, hl]
  ·
   have := h1 e he
   unfold entB at this ⊢
   rw [Bool.and_eq_true] at this ⊢
   exact ⟨this.1, hs _ this.2⟩
 ·
  rw [List.all_eq_true] at h2 ⊢
  intro b hb
  have g := h2 b hb
  rw [decide_eq_true_eq] at g ⊢
  rw [inB_ins]
  split
  ·
   rename_i q
   have e : nFull E d t 0 ⟨#[]⟩ = inB E b := by
    unfold nFull inB
    refine List.countP_congr fun e _ => ?_
    unfold inQ
    have q' : bkt t = (b : Int) := q
    have d0 : ((0 : Int) == d) = false := by simpa using fun e => hd e.symm
    rw [q', d0]
    simp
   omega
  · omega
 ·
  refine adj_ins (fun a b c => below_trans) h3 fun y hy hl => ?_
  have hne := pl_none hp y hy
  rcases below_tri y.1 t with e | e | e
  · exact absurd e hne
  ·
   have : ltE y (t, z) = true := e
   rw [this] at hl; cases hl
  · exact e
theorem entsB_mono {L L' : List Ino} {E : List En} (h : entsB L E = true) (hs : ∀ z, (atR L z).isSome = true → (atR L' z).isSome = true) : entsB L' E = true := by
 unfold entsB at h ⊢
 rw [Bool.and_eq_true, Bool.and_eq_true] at h ⊢
 obtain ⟨⟨h1, h2⟩, h3⟩ := h
 refine ⟨⟨?_, h2⟩, h3⟩
 rw [List.all_eq_true] at h1 ⊢
 intro e he
 have := h1 e he
 unfold entB at this ⊢
 rw [Bool.and_eq_true] at this ⊢
 exact ⟨this.1, hs _ this.2⟩
theorem given_set {M : List Int} {i : Nat} (hi : i < M.length) {g : Int} (hg : M[i] ≤ g) {z : Int} (h : givenB M z = true) : givenB (M.set i g) z = true := by
 unfold givenB at h ⊢
 by_cases q : i = ((z - 2) % 8).toNat
 ·
  rw [← q] at h ⊢
  rw [List.getElem?_eq_getElem hi] at h
  rw [List.getElem?_set_self hi]
  simp only [decide_eq_true_eq] at h ⊢
  omega
 ·
  rw [List.getElem?_set_ne q]
  exact h
theorem given_new {M : List Int} {i : Nat} (hi : i < M.length) (h8 : i < 8) {g : Int} (h0 : 0 ≤ g) : givenB (M.set i (g + 1)) (2 + (i : Int) + 8 * g) = true := by
 unfold givenB
 have e : ((2 + (i : Int) + 8 * g - 2) % 8).toNat = i := by omega
 rw [e, List.getElem?_set]
 simp only [if_true, hi]
 rw [decide_eq_true_eq]
 omega
theorem entN_none {S : Sta} (v : Vw S) {z : Int} (hz : ∀ x ∈ S.ino, x.num ≠ z) : entN S.ino z = 0 := by
 have zero : ∀ l : List Nat, (∀ a ∈ l, a = 0) → l.sum = 0 := fun l h => by
  induction l with
  | nil => rfl
  | cons a l ih =>
   rw [List.sum_cons, h a List.mem_cons_self, ih fun b hb => h b (List.mem_cons_of_mem _ hb)]
 unfold entN
 refine zero _ fun a ha => ?_
 obtain ⟨x, hx, rfl⟩ := List.mem_map.1 ha
 unfold cnt
 rw [List.countP_eq_zero]
 intro e he q
 have q' : e.2 = z := by simpa using q
 have g := v.ino x hx
 unfold inoB at g
 split at g
 ·
  rw [Bool.and_eq_true] at g
  have g2 := g.2
  unfold entsB at g2
  rw [Bool.and_eq_true, Bool.and_eq_true, List.all_eq_true] at g2
  have := g2.1.1 e he
  unfold entB at this
  rw [Bool.and_eq_true] at this
  obtain ⟨y, hy, e1⟩ := at_isSome.1 this.2
  exact hz y hy (by rw [e1, q'])
 ·
  rw [Bool.and_eq_true] at g
  have : x.ents = [] := by simpa using g.1
  rw [this] at he
  cases he
theorem Vw.create {S : Sta} (v : Vw S) {i : Nat} (hi : i < S.made.length) (h8 : i < 8) {g : Int} (hg : S.made[i] = g) (hg0 : 0 ≤ g) (hg1 : g < 32) {x : Ino} (hxn : x.num = 2 + (i : Int) + 8 * g) (hxe : x.ents = []) (hxd : x.data = ⟨#[]⟩)
  (hfr : ∀ y ∈ S.ino, y.num ≠ x.num) {D : Ino} (hD : D ∈ S.ino) (hDd : D.dir = true) {t : ByteArray} (hc : chk t = 0) (hp : (plR D.ents t).isSome = false) (hf : nFull D.ents D.num t 0 ⟨#[]⟩ < 4)
  {j : Nat} (hj : j < (insR ltI S.ino x).length) (hjD : (insR ltI S.ino x)[j] = D) :
  Vw ⟨(insR ltI S.ino x).set j (withE D (insR ltE D.ents (t, x.num))), S.opn, S.made.set i (g + 1)⟩ := by
 have hpos : ∀ y ∈ S.ino, 1 ≤ y.num := fun y hy => by
  by_cases e : y.num = 1
  · omega
  · have := (v.gv y hy e).1; omega
 have hx2 : 2 ≤ x.num := by omega
 have a1 : adj ltI (insR ltI S.ino x) = true := adj_ins (fun a b c => ltI_trans a b c) v.row fun y hy hl => by
  have := hfr y hy
  unfold ltI at hl ⊢
  rw [decide_eq_false_iff_not] at hl
  rw [decide_eq_true_eq]
  omega
 obtain ⟨D', hD'⟩ : ∃ D', withE D (insR ltE D.ents (t, x.num)) = D' := ⟨_, rfl⟩
 have n' : D'.num = D.num := by rw [← hD']
 have d' : D'.dir = true := by rw [← hD']; exact hDd
 have e' : D'.ents = insR ltE D.ents (t, x.num) := by rw [← hD']
 have b' : D'.data = D.data := by rw [← hD']
 rw [hD']
 obtain ⟨L', hL'⟩ : ∃ L', (insR ltI S.ino x).set j D' = L' := ⟨_, rfl⟩
 have a2 : adj ltI L' = true := by rw [← hL']; exact adj_set a1 hj (by rw [hjD]; exact n')
 have hm : ∀ y, y ∈ L' ↔ y = D' ∨ (y = x ∨ y ∈ S.ino) ∧ y.num ≠ D.num := fun y => by
  rw [← hL', mem_set a1 hj, hjD, mem_ins]
 have hxD : x.num ≠ D.num := fun e => hfr D hD e.symm
 have hxm : x ∈ L' := (hm x).2 (Or.inr ⟨Or.inl rfl, hxD⟩)
 have hDm : D' ∈ L' := (hm D').2 (Or.inl rfl)
 have old : ∀ y ∈ S.ino, y.num ≠ D.num → y ∈ L' := fun y hy hn => (hm y).2 (Or.inr ⟨Or.inr hy, hn⟩)
 -- each old inode has its like
 have like : ∀ y ∈ S.ino, ∃ y' ∈ L', y'.num = y.num ∧ y'.dir = y.dir ∧ ∀ e ∈ y.ents, e ∈ y'.ents := fun y hy => by
  by_cases q : y.num = D.num
  ·
   have : y = D := by
    have h1 := look_iff v.row hy
    have h2 := look_iff v.row hD
    rw [q, h2] at h1
    exact (Option.some.inj h1).symm
   subst this
   exact ⟨D', hDm, n', by rw [d', hDd], fun e he => by rw [e']; exact mem_ins.2 (Or.inr he)⟩
  · exact ⟨y, old y hy q, rfl, rfl, fun e he => he⟩
 have hs : ∀ z, (atR S.ino z).isSome = true → (atR L' z).isSome = true := fun z h => by
  obtain ⟨y, hy, rfl⟩ := at_isSome.1 h
  obtain ⟨y', hy', e1, -⟩ := like y hy
  exact at_isSome.2 ⟨y', hy', e1⟩
 have hN : ∀ z, entN L' z = entN S.ino z + if x.num = z then 1 else 0 := fun z => by
  have h1 := entN_set (insR ltI S.ino x) j hj D' z
  rw [hL', hjD, e', cnt_ins, entN_ins, hxe] at h1
  have : cnt [] z = 0 := rfl
  rw [this] at h1
  dsimp only at h1
  omega
 have dirs : ∀ z, dirOf L' z = true → z = x.num ∧ x.dir = true ∨ dirOf S.ino z = true := fun z h => by
  obtain ⟨y, hy, rfl, hd⟩ := (dir_iff a2).1 h
  rcases (hm y).1 hy with rfl | ⟨rfl | hy, -⟩
  · exact Or.inr ((dir_iff v.row).2 ⟨D, hD, n'.symm, hDd⟩)
  · exact Or.inl ⟨rfl, hd⟩
  · exact Or.inr ((dir_iff v.row).2 ⟨y, hy, rfl, hd⟩)
 have dirsUp : ∀ z, dirOf S.ino z = true → dirOf L' z = true := fun z h => by
  obtain ⟨y, hy, rfl, hd⟩ := (dir_iff v.row).1 h
  obtain ⟨y', hy', e1, e2, -⟩ := like y hy
  exact (dir_iff a2).2 ⟨y', hy', e1, by rw [e2]; exact hd⟩
 have up : ∀ z, Rch S.ino z → Rch L' z := fun z r => by
  induction r with
  | root => exact Rch.root
  | kid r0 hz ih =>
   rename_i y z
   rw [kid_iff] at hz
   obtain ⟨⟨e, he, rfl⟩, hd⟩ := hz
   refine Rch.kid ih (kid_iff.2 ⟨?_, dirsUp _ hd⟩)
   rw [look_ents] at he
   rcases hl : look S.ino y with _ | u
   · rw [hl] at he; cases he
   ·
    rw [hl] at he
    obtain ⟨hu, rfl⟩ := (look_mem v.row).1 hl
    obtain ⟨u', hu', e1, -, e3⟩ := like u hu
    rw [← e1, ents_mem a2 hu']
    exact ⟨e, e3 e he, rfl⟩
 rw [hL']
 refine ⟨?_, a2, ?_, fun y hy hn => ?_, fun y hy => ?_, v.opn, fun d hq => ?_, fun y hy hn => ?_, fun z hz => ?_⟩
 ·
  have m := v.made
  unfold madeB at m ⊢
  rw [List.length_set, Bool.and_eq_true, List.all_eq_true] at *
  refine ⟨m.1, fun z hz => ?_⟩
  rcases List.mem_or_eq_of_mem_set hz with h | rfl
  · exact m.2 z h
  · rw [Bool.and_eq_true, decide_eq_true_eq, decide_eq_true_eq]; omega
 ·
  obtain ⟨r, hr, r1, rd⟩ := v.root
  obtain ⟨r', hr', e1, e2, -⟩ := like r (List.mem_of_getElem? hr)
  refine root_of a2 (fun y hy => ?_) hr' (by rw [e1]; exact r1) (by rw [e2]; exact rd)
  rcases (hm y).1 hy with rfl | ⟨rfl | hy, -⟩
  · rw [n']; exact hpos D hD
  · omega
  · exact hpos y hy
 ·
  dsimp only at hy ⊢
  rcases (hm y).1 hy with rfl | ⟨rfl | hy, -⟩
  ·
   rw [n'] at hn ⊢
   have := v.gv D hD hn
   exact ⟨this.1, given_set hi (by omega) this.2⟩
  ·
   refine ⟨hx2, ?_⟩
   rw [hxn]
   exact given_new hi h8 hg0
  ·
   have := v.gv y hy hn
   exact ⟨this.1, given_set hi (by omega) this.2⟩
 ·
  dsimp only at hy ⊢
  rcases (hm y).1 hy with rfl | ⟨rfl | hy, -⟩
  ·
   have gD := v.ino D hD
   unfold inoB at gD ⊢
   rw [hDd] at gD
   rw [d', b', e']
   simp only [if_true, Bool.and_eq_true] at gD ⊢
   exact ⟨gD.1, entsB_ins gD.2 hs hc (by omega) (at_isSome.2 ⟨x, hxm, rfl⟩) hp (by have := hpos D hD; omega) hf⟩
  ·
   unfold inoB
   rw [hxe, hxd]
   split
   ·
    rw [show ((⟨#[]⟩ : ByteArray).toList.isEmpty) = true from by decide +kernel]
    unfold entsB
    simp [inB, adj]
   · rfl
  ·
   have g := v.ino y hy
   unfold inoB at g ⊢
   split
   ·
    rename_i q
    rw [if_pos q, Bool.and_eq_true] at g
    rw [Bool.and_eq_true]
    exact ⟨g.1, entsB_mono g.2 hs⟩
   ·
    rename_i q
    rw [if_neg q] at g
    exact g
 ·
  have g := v.des d hq
  obtain ⟨k, ha, hk, hd⟩ := des_file g
  obtain ⟨hk2, hn2⟩ := at_get ha
  have hne : (S.ino[k]).num ≠ D.num := fun q => by
   have h1 := look_iff v.row (List.getElem_mem hk)
   have h2 := look_iff v.row hD
   rw [q, h2] at h1
   have := Option.some.inj h1
   rw [← this, hDd] at hd
   cases hd
  have hin := old _ (List.getElem_mem hk) hne
  have hl := look_iff a2 hin
  rw [hn2] at hl
  unfold look at hl
  rcases ha' : atR L' d.2.2 with _ | k'
  · rw [ha'] at hl; cases hl
  ·
   rw [ha'] at hl
   simp only [Option.bind_some] at hl
   unfold desB at g ⊢
   dsimp only
   rw [ha']
   rw [List.length_set]
   rw [Bool.and_eq_true] at g ⊢
   refine ⟨g.1, ?_⟩
   simp only [hl]
   simp [hd]
 ·
  dsimp only at hy ⊢
  unfold helB
  dsimp only
  rw [hN]
  rcases (hm y).1 hy with rfl | ⟨rfl | hy, -⟩
  ·
   rw [n'] at hn ⊢
   have := v.held D hD hn
   unfold helB at this
   rw [hDd] at this
   rw [d', if_neg hxD]
   simpa using this
  ·
   rw [entN_none v hfr]
   simp
  ·
   have := v.held y hy hn
   unfold helB at this
   have q : (if x.num = y.num then 1 else 0) = 0 := if_neg (fun e => hfr y hy e.symm)
   rw [q]
   exact this
 ·
  rcases dirs z hz with ⟨rfl, hd⟩ | h
  ·
   refine Rch.kid (up D.num (v.fnd D.num ((dir_iff v.row).2 ⟨D, hD, rfl, hDd⟩))) (kid_iff.2 ⟨?_, hz⟩)
   rw [← n', ents_mem a2 hDm, e']
   exact ⟨_, mem_ins.2 (Or.inl rfl), rfl⟩
  · exact up z (v.fnd z h)
end Go.Proofs.YtffncojcnbhblaaGreatDoor
