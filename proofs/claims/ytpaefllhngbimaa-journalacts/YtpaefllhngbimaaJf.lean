/-
  Package journal's flush, pack, unpack, text.
-/
import Derived.Test.YtpaefllhngbimaaJr
import Derived.Deep.AppendLies
import Derived.Maps.AppendAt
import Derived.OwnWalk
import Derived.RangeFuncBox
namespace Go.Proofs.Ytpaefllhngbimaa
open Go.RowKit
set_option linter.unusedVariables false
set_option maxRecDepth 10000

theorem run_fl_one (M : Pm) (l : Nat) (k : Nat) : (M.run ((List.range k).map fun i => Op.fl (l + i))).flush (l + k) = M.run ((List.range (k + 1)).map fun i => Op.fl (l + i)) := by
  rw [List.range_succ, List.map_append, run_append]; rfl

set_option maxHeartbeats 1000000 in
theorem j_flush {S : List (Nat × Obj)} {w0 w : World} {b j : Nat} {M : Pm} (h : Hj S w0 w b M) {f n : Int} (hj : (j, jn b f n) ∈ S) (a c : Nat) (hl : a + c ≤ M.seen.length) (h8 : M.seen.length % 8 = 0) (ht : M.seen.length ≤ 65536)
    (hs0 : 0 ≤ M.steps) (hs : M.steps < 900000000) :
    Calls Try.prog 54 #[.pointer (some ⟨j, 0, none⟩), .int .i64 (a : Int), .int .i64 (c : Int)] w fun e w' => e = .returned (.tuple #[]) ∧ Hj S w0 w' b (M.run (flOps a c)) := by
  go_enter Try.func54, Try.ntmps54
  go_wp2_with fail
  go_loopw [6] (fun i wr => ∃ k : Nat, i = .int .i64 ((a / 8 + k : Nat) : Int) ∧ k ≤ (a + c + 7) / 8 - a / 8 ∧ Hj S w0 wr b (M.run ((List.range k).map fun i => Op.fl (a / 8 + i)))) (fun i _ => ((a + c + 7) / 8 - intOf i).toNat)
  case atStart => exact ⟨0, by congr 1, by omega, h⟩
  case round =>
    obtain ⟨k, rfl, hk, hw⟩ := hrel
    have hcell := hw.at hj
    obtain ⟨c0, c1, c2⟩ := jn_cells hcell
    have hsl : (M.run ((List.range k).map fun i => Op.fl (a / 8 + i))).seen.length = M.seen.length := by rw [run_seen, seenBy_length]
    have hst : (M.run ((List.range k).map fun i => Op.fl (a / 8 + i))).steps = M.steps + k := by rw [run_steps]; simp
    have hone := run_fl_one M (a / 8) k
    by_cases hlt : k < (a + c + 7) / 8 - a / 8
    · have i1 : ((a / 8 + k : Nat) : Int) * 8 < (a : Int) + (c : Int) := by omega
      generalize hN : M.run ((List.range k).map fun i => Op.fl (a / 8 + i)) = N at *
      go_wp2_with (first
        | (go_at_call 12; refine (h_flush hw ((a / 8 + k : Nat) : Int) (by omega) (by omega) (by omega) (by omega)).mono ?_; rintro e w2 ⟨rfl, hw2⟩; rw [Int.toNat_natCast, hone] at hw2))
      go_roundw
      case rel => exact ⟨k + 1, by congr 1, by omega, hw2⟩
      case measure => simp [intOf]; omega
    · have i1 : ¬ ((a / 8 + k : Nat) : Int) * 8 < (a : Int) + (c : Int) := by omega
      have he : k = (a + c + 7) / 8 - a / 8 := by omega
      go_wp2_with fail
      go_end0
      exact ⟨rfl, by unfold flOps; rw [← he]; exact hw⟩

/-- The first k bytes as a number. -/
def part8 (s : ByteArray) : Nat → Nat
  | 0 => 0
  | k + 1 => part8 s k + (byteOf s k).toNat * 256 ^ k

theorem part8_lt (s : ByteArray) : ∀ k, part8 s k < 256 ^ k
  | 0 => by simp [part8]
  | k + 1 => by
    have ih := part8_lt s k
    have hb := byteOf_range s k
    have h1 : (byteOf s k).toNat ≤ 255 := by omega
    have h2 : (byteOf s k).toNat * 256 ^ k ≤ 255 * 256 ^ k := Nat.mul_le_mul_right _ h1
    rw [part8, Nat.pow_succ]
    omega

theorem part8_end (s : ByteArray) (hs : s.size ≤ 8) : ((part8 s s.size : Nat) : Int) = word8 (byteOf s) := by
  have hz : ∀ i, s.size ≤ i → byteOf s i = 0 := fun i hi => by unfold byteOf; rw [dif_neg (by omega)]
  have hb : ∀ i, ((byteOf s i).toNat : Int) = byteOf s i := fun i => by have := byteOf_range s i; omega
  have b0 := hb 0; have b1 := hb 1; have b2 := hb 2; have b3 := hb 3; have b4 := hb 4; have b5 := hb 5; have b6 := hb 6; have b7 := hb 7
  unfold word8
  rcases (show s.size = 0 ∨ s.size = 1 ∨ s.size = 2 ∨ s.size = 3 ∨ s.size = 4 ∨ s.size = 5 ∨ s.size = 6 ∨ s.size = 7 ∨ s.size = 8 from by omega) with e | e | e | e | e | e | e | e | e <;>
    · rw [e] at hz ⊢
      have z0 := hz 0; have z1 := hz 1; have z2 := hz 2; have z3 := hz 3; have z4 := hz 4; have z5 := hz 5; have z6 := hz 6; have z7 := hz 7
      simp only [part8]
      omega

theorem or_part (s : ByteArray) (k : Nat) (hk : k < 8) : bits .or .u64 ((part8 s k : Nat) : Int) (IntKind.u64.wrap (byteOf s k * 2 ^ (8 * k))) = ((part8 s (k + 1) : Nat) : Int) := by
  have h1 := part8_lt s k
  have hb := byteOf_range s k
  have e256 : 256 ^ k = 2 ^ (8 * k) := by rw [show (256 : Nat) = 2 ^ 8 from rfl, ← Nat.pow_mul]
  obtain ⟨c, hc⟩ : ∃ c : Nat, byteOf s k = (c : Int) := ⟨(byteOf s k).toNat, by omega⟩
  have h2 := part8_lt s (k + 1)
  have h3 : 256 ^ (k + 1) ≤ 18446744073709551616 := Nat.le_trans (Nat.pow_le_pow_right (by omega) (show k + 1 ≤ 8 by omega)) (by decide)
  rw [part8] at h2 ⊢
  rw [hc, Int.toNat_natCast] at h2 ⊢
  rw [e256] at h1 h2 ⊢
  have hle : c * 2 ^ (8 * k) < 18446744073709551616 := by omega
  have e2 : ((c : Int) * 2 ^ (8 * k)) = ((c * 2 ^ (8 * k) : Nat) : Int) := by push_cast; rfl
  rw [e2]
  have ew : IntKind.u64.wrap ((c * 2 ^ (8 * k) : Nat) : Int) = ((c * 2 ^ (8 * k) : Nat) : Int) := by rw [IntKind.wrap_u64]; omega
  rw [ew]
  show IntKind.u64.wrap ((BitVec.ofInt 64 (part8 s k : Int) ||| BitVec.ofInt 64 ((c * 2 ^ (8 * k) : Nat) : Int)).toNat : Nat) = _
  rw [BitVec.ofInt_natCast, BitVec.ofInt_natCast, BitVec.toNat_or, BitVec.toNat_ofNat, BitVec.toNat_ofNat, Nat.mod_eq_of_lt (by omega), Nat.mod_eq_of_lt hle]
  have h4 := Nat.two_pow_add_eq_or_of_lt h1 c
  rw [Nat.or_comm, Nat.mul_comm c, ← h4, IntKind.wrap_u64, Nat.mul_comm]
  have : (c * 2 ^ (8 * k) + part8 s k) < 18446744073709551616 := by omega
  omega

set_option maxHeartbeats 1000000 in
theorem j_pack (s : ByteArray) (hs : s.size ≤ 8) (w : World) :
    Calls Try.prog 63 #[.string s] w fun e w' => e = .returned (.int .u64 (word8 (byteOf s))) ∧ w = w' := by
  go_enter Try.func63, Try.ntmps63
  go_wp2_with fail
  go_loopw [3, 7] (fun h i wr => ∃ k : Nat, h = .int .u64 ((part8 s k : Nat) : Int) ∧ i = .int .i64 (k : Int) ∧ k ≤ s.size ∧ Hid (wr = w)) (fun _ i _ => (s.size - intOf i).toNat)
  case atStart => exact ⟨0, rfl, rfl, by omega, rfl⟩
  case round =>
    obtain ⟨k, rfl, rfl, hk, HW⟩ := hrel
    have hw := HW.out
    subst hw
    by_cases hlt : k < s.size
    · have i1 : (k : Int) < (s.size : Int) := by omega
      have HO := or_part s k (by omega)
      have HB := byteOf_range s k
      have hbk : byteOf s k = ((s[k]'hlt).toNat : Int) := by unfold byteOf; rw [dif_pos hlt]
      rw [hbk] at HO HB
      have hwr : IntKind.u64.wrap ((s[k]'hlt).toNat : Int) = ((s[k]'hlt).toNat : Int) := wrap_byte _
      go_wp2_with fail
      go_roundw
      case rel => exact ⟨k + 1, by first | rfl | rw [HO], by go_num, by omega, trivial⟩
      case measure => simp [intOf]; omega
    · have i1 : ¬ (k : Int) < (s.size : Int) := by omega
      have he : k = s.size := by omega
      have HE : Hid (_) := part8_end s hs
      subst he
      go_wp2_with fail
      go_ret
      exact ⟨by rw [← HE.out]; rfl, rfl⟩

/-- A word's bytes. -/
def bytesOfW (x : Int) (q : Nat) : List Int := (List.range q).map fun j => x / 256 ^ j % 256

theorem info5 : (Try.prog.info? 5).map (fun i => (i.zero, i.size, i.bytes)) = some (some (.int .u8 0), 1, 1) := by kernel_rfl

set_option maxHeartbeats 2000000 in
theorem j_unpack {W : World} {H : Nat} {v : Value} {xs : List Int} (h : W.ownsRow H 5 1 v xs.length (xs.map (Value.int .u8))) (hH : H ≤ W.heap.size) (x : Int) (h0 : 0 ≤ x) (h1 : x < 18446744073709551616) (hz : xs.length ≤ 1000000) :
    Calls Try.prog 61 #[v, .int .u64 x] W fun e W' => ∃ v', e = .returned v' ∧ W'.ownsRow H 5 1 v' (xs ++ bytesOfW x 8).length ((xs ++ bytesOfW x 8).map (Value.int .u8)) ∧ Below H W W' := by
  obtain ⟨i0, hi, hz0, hz1, hz2⟩ := info_parts info5
  go_enter Try.func61, Try.ntmps61
  go_wp2_with fail
  go_loopw [0, 1, 5] (fun u y i wr => ∃ q : Nat, y = .int .u64 (x / 256 ^ q) ∧ i = .int .i64 (q : Int) ∧ q ≤ 8 ∧ wr.ownsRow H 5 1 u (xs.length + q) ((xs ++ bytesOfW x q).map (Value.int .u8)) ∧ Below H W wr) (fun _ _ i _ => (8 - intOf i).toNat)
  case atStart => exact ⟨0, by simp, rfl, by omega, by simpa [bytesOfW] using h, Below.refl _ _⟩
  case round =>
    obtain ⟨q, rfl, rfl, hq, hown, hB⟩ := hrel
    by_cases hlt : q < 8
    · have i1 : (q : Int) < 8 := by omega
      have hb2 := hB.size
      have hy : x / 256 ^ q / 256 = x / 256 ^ (q + 1) := by rw [Int.ediv_ediv_of_nonneg (by exact Int.pow_nonneg (by decide)), Int.pow_succ]
      have hy0 : 0 ≤ x / 256 ^ q := Int.ediv_nonneg h0 (Int.pow_nonneg (by decide))
      have hy1 : x / 256 ^ q < 18446744073709551616 := by
        have := Int.ediv_le_self (256 ^ q) h0
        omega
      have hbs : bytesOfW x (q + 1) = bytesOfW x q ++ [x / 256 ^ q % 256] := by unfold bytesOfW; rw [List.range_succ, List.map_append]; rfl
      generalize hyy : x / 256 ^ q = y at *
      have HY : Hid (_ ∧ _) := ⟨hy, hbs⟩
      have HB : Hid (_) := hB
      clear hy hbs hB hyy
      go_wp2_with (first
        | (at_builtin; refine wpList_append_own _ rfl _ _ 46 rfl H 5 i0 (.int .u8 0) 1 1 Try.underlying46 hi hz0 hz1 hz2 rfl (by decide) _ (xs.length + q) _ rfl (hown.alloc _) ⟨wr.heap.size, 0, none⟩ 1 1 [.int .u8 (y % 256)] rfl rfl (cell_one_new _ _ _) (by simp [Value.oneCell']) (by unfold maxLen; omega) (by omega) (by simp; omega) ?_; intro v' w1 hown' hgrow _))
      have hB1 : Below H W w1 := (HB.out.alloc (by omega) _).grown hgrow (by simp; omega) (fun k hk => (hown.lt k hk).1)
      have HN : Hid (_ ∧ _) := ⟨hown', hB1⟩
      obtain ⟨g', cap', rfl⟩ := ownsRow_succ hown'
      clear hown' hown hgrow hB1
      go_wp2_with fail
      go_roundw
      case rel => exact ⟨q + 1, by rw [HY.out.1], by go_num, by omega, by rw [HY.out.2, ← List.append_assoc, List.map_append]; exact HN.out.1, HN.out.2⟩
      case measure => simp [intOf]; omega
    · have i1 : ¬ (q : Int) < 8 := by omega
      have he : q = 8 := by omega
      subst he
      have HO : Hid (_ ∧ _) := ⟨hown, hB⟩
      clear hown hB
      go_wp2_with fail
      go_ret
      have hl8 : (bytesOfW x 8).length = 8 := by simp [bytesOfW]
      exact ⟨_, rfl, by have e := HO.out.1; rw [List.map_append] at e; simp only [hl8]; exact e, HO.out.2⟩

theorem Below.kept0 {W W' : World} (h : Below W.heap.size W W') : Kept [] W W' := ⟨h.os, h.tape, h.output, h.size, fun k hk _ => h.block k hk⟩

theorem make_cap (n : Nat) (h : n ≤ 65544) (w : World) : ∃ cur, (Instr.makeSlice 46 (.int .i64 0) (.int .i64 (n : Int))).run Try.prog w = .ok (.slice (some ⟨w.heap.size, 0, none⟩) 0 n) (w.alloc (.cells cur 5)) ∧ cur.size = n := by
  obtain ⟨i0, hi, hz0, hz1, hz2⟩ := info_parts info5
  have := run_make (P := Try.prog) w 46 5 i0 (.int .u8 0) Try.underlying46 hi hz0 .i64 .i64 0 n (by omega) (by omega) (by rw [hz2]; omega) (by omega)
  refine ⟨_, this, ?_⟩
  rw [hz1]
  simp [Value.cells, madeCells]

/-- The bytes of m words from a on. -/
def rowOf (X : List Int) (a m : Nat) : List Int := (List.range (8 * m)).map (byteAt X a)

theorem rowOf_succ (X : List Int) (a m : Nat) : rowOf X a (m + 1) = rowOf X a m ++ bytesOfW (wordAt X (a + m)) 8 := by
  unfold rowOf bytesOfW
  rw [show 8 * (m + 1) = 8 * m + 8 from by omega, List.range_add, List.map_append, List.map_map]
  congr 1
  apply List.map_congr_left
  intro j hj
  rw [List.mem_range] at hj
  show byteAt X a (8 * m + j) = _
  unfold byteAt
  rw [show (8 * m + j) / 8 = m from by omega, show (8 * m + j) % 8 = j from by omega]

theorem rowOf_length (X : List Int) (a m : Nat) : (rowOf X a m).length = 8 * m := by simp [rowOf]

theorem rowOf_take (X : List Int) (a m n : Nat) (h : n ≤ 8 * m) : (rowOf X a m).take n = (List.range n).map (byteAt X a) := by
  unfold rowOf
  rw [← List.map_take, List.take_range]
  congr 2
  omega

theorem owns_cap {W : World} {H g n cap : Nat} {xs : List Value} (h : W.ownsRow H 5 1 (.slice (some ⟨g, 0, none⟩) n cap) n xs) : n ≤ cap ∧ ∃ cur : Array Value, W.heap[g]? = some (.cells cur 5 (0, 0)) ∧ cur.toList.take n = xs ∧ H ≤ g := by
  rcases h.2 with ⟨h1, _⟩ | ⟨g2, cap2, cur, h1, h2, h3, h4, _, h5, h6⟩
  · cases h1
  · simp only [Value.slice.injEq, Option.some.injEq, Addr.mk.injEq, true_and, and_true] at h1
    obtain ⟨rfl, rfl⟩ := h1
    exact ⟨h4, cur, h3, by simpa using h6, h2⟩

theorem owns_conv {W : World} {H g n cap z : Nat} {xs : List Int} (h : W.ownsRow H 5 1 (.slice (some ⟨g, 0, none⟩) n cap) n (xs.map (Value.int .u8))) (hz : z ≤ n) (c : Nat) :
    (convert 46 9 (.slice (some ⟨g, 0, none⟩) z c)).run Try.prog W = .ok (.string (strOfNums (xs.take z))) W := by
  obtain ⟨h1, cur, h2, h3, -⟩ := owns_cap h
  have hl : xs.length = n := by have := h.1; simpa using this
  refine run_convert_bytes_arg (P := Try.prog) W 46 5 Try.underlying46 Try.underlying5 g 0 z c (xs.take z) (by simp; omega) (fun i hi => ?_) 9 Try.underlying9
  rw [Nat.zero_add]
  have e1 : cur.toList[i]? = (xs.map (Value.int .u8))[i]? := by rw [← h3, List.getElem?_take, if_pos (by omega)]
  have : W.cell? ⟨g, i, none⟩ = cur[i]? := by simp [World.cell?, h2]
  rw [this, ← Array.getElem?_toList, e1]
  simp [hi, List.getD_eq_getElem?_getD, show i < xs.length by omega]

set_option maxHeartbeats 2000000 in
theorem j_text {S : List (Nat × Obj)} {w0 w : World} {b j : Nat} {M : Pm} (h : Hj S w0 w b M) {f n : Int} (hj : w.heap[j]? = some (jn b f n)) (hr : Rng M.seen) (a z : Nat) (hz : z ≤ 65536) (hl : a + (z + 7) / 8 ≤ M.seen.length) (htop : M.seen.length ≤ 65536) :
    Calls Try.prog 56 #[.pointer (some ⟨j, 0, none⟩), .int .i64 (a : Int), .int .i64 (z : Int)] w fun e w' => e = .returned (.string (textAt M.seen a z)) ∧ Kept [] w w' := by
  have HH : Hid (_ ∧ _) := ⟨h, hj⟩
  clear h hj
  obtain ⟨cur, hmk, hcur⟩ := make_cap (z + 8) (by omega) w
  have e8 : ((z + 8 : Nat) : Int) = (z : Int) + 8 := by omega
  rw [e8] at hmk
  have hown0 : (w.alloc (.cells cur 5)).ownsRow w.heap.size 5 1 (.slice (some ⟨w.heap.size, 0, none⟩) 0 (z + 8)) 0 [] := World.ownsRow_made w cur (z + 8) (Nat.le_refl _) (by unfold maxLen; omega) (by omega)
  go_enter Try.func56, Try.ntmps56
  go_wp2_with fail
  go_loopw [1, 7] (fun y u wr => ∃ m g cap : Nat, y = .int .i64 ((a + m : Nat) : Int) ∧ u = .slice (some ⟨g, 0, none⟩) (8 * m) cap ∧ m ≤ (z + 7) / 8 ∧ 8 * m ≤ cap ∧ wr.ownsRow w.heap.size 5 1 u (rowOf M.seen a m).length ((rowOf M.seen a m).map (Value.int .u8)) ∧ Below w.heap.size w wr) (fun y _ _ => (a + (z + 7) / 8 - intOf y).toNat)
  case atStart => exact ⟨0, w.heap.size, z + 8, by simp, rfl, by omega, by omega, by simpa [rowOf] using hown0, (Below.refl _ _).alloc (Nat.le_refl _) _⟩
  case round =>
    obtain ⟨m, g, cap, rfl, rfl, hm, hcap, hown, hB⟩ := hrel
    have hlen := rowOf_length M.seen a m
    by_cases hlt : 8 * m < z
    · have i1 : ((8 * m : Nat) : Int) < (z : Int) := by omega
      have hK : Kept [] w wr := Below.kept0 hB
      have hw := HH.out.1.still hK
      have hjr : wr.heap[j]? = some (jn b f n) := by rw [hK.block j (lt_of_heap HH.out.2) (by simp)]; exact HH.out.2
      have hrr := hr (a + m)
      have hBs := hB.size
      have HB : Hid (_) := hB
      have HO : Hid (_) := hown
      clear hB hown hK
      go_wp2_with (first
        | (go_at_call 55; refine (j_load hw hjr (a + m) (by omega)).mono ?_; rintro e w2 ⟨rfl, hw2⟩; have hw3 := hw2.symm; subst hw3; clear hw2)
        | (go_at_call 61; have hox := HO.out; refine (j_unpack (xs := rowOf M.seen a m) (by rw [hlen] at hox ⊢; exact hox) hBs (wordAt M.seen (a + m)) hrr.1 hrr.2 (by omega)).mono ?_; clear hox; rintro e w3 ⟨v', rfl, hown3, hB3⟩; rw [← rowOf_succ] at hown3; have hl3 := rowOf_length M.seen a (m + 1); rw [hl3] at hown3; obtain ⟨g', cap', rfl⟩ := ownsRow_succ (k := 8 * m + 7) hown3; have hc3 := (owns_cap hown3).1; have HN : Hid (_ ∧ _) := ⟨hown3, HB.out.trans hB3⟩; clear hown3 hB3))
      go_roundw
      case rel => exact ⟨m + 1, g', cap', by go_num, by first | rfl | congr 1, by omega, by omega, by rw [hl3]; exact HN.out.1, HN.out.2⟩
      case measure => simp [intOf]; omega
    · have i1 : ¬ ((8 * m : Nat) : Int) < (z : Int) := by omega
      have he : m = (z + 7) / 8 := by omega
      rw [hlen] at hown
      have hcv := owns_conv hown (show z ≤ 8 * m by omega)
      rw [rowOf_take _ _ _ _ (show z ≤ 8 * m by omega)] at hcv
      have i2 : (z : Int) ≤ (cap : Int) := by omega
      have HB : Hid (_) := Below.kept0 hB
      clear hB hown
      go_wp2_with fail
      go_ret
      exact ⟨rfl, HB.out⟩

end Go.Proofs.Ytpaefllhngbimaa
