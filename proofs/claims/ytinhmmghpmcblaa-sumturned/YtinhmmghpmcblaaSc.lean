/-
  What every law asks first; what one byte does to a sum; what digits tell.
-/
import Derived.Test.YtinhmmghpmcblaaSb
import Derived.Laws.IdiomStrings
import Derived.Deep.CutRange
import Derived.Deep.CutBlock
import Derived.BigQuiet
namespace Go.Proofs.Ytinhmmghpmcblaa
open Go.RowKit Go.Lib
set_option linter.unusedVariables false

theorem sum_nil : ((sumS ⟨#[]⟩).toNat : Int) = 14695981039346656037 := by
  unfold sumS; rw [ByteArray.toList_eq]; kernel_rfl

theorem sum_a : ((sumS ⟨#[97]⟩).toNat : Int) = 12638187200555641996 := by
  unfold sumS; rw [ByteArray.toList_eq]; kernel_rfl

theorem hex_ff : (hexT 255).toList = [48, 48, 48, 48, 48, 48, 48, 48, 48, 48, 48, 48, 48, 48, 102, 102] := by
  rw [ByteArray.toList_eq]; kernel_rfl

theorem awake_any (w : World) : Calls Try.prog 11 #[] w fun e w' => e = .returned (.bool true) ∧ Kept [] w w' := by
  go_enter Try.func11, Try.ntmps11
  go_wp2_with fail
  refine (p_of _ w (by decide)).mono ?_
  rintro e w1 ⟨rfl, hw⟩
  have hw2 := hw.symm; subst hw2; clear hw
  rw [sum_nil]
  go_wp2_with fail
  refine (p_of _ w (by decide)).mono ?_
  rintro e w1 ⟨rfl, hw⟩
  have hw2 := hw.symm; subst hw2; clear hw
  rw [sum_a]
  go_wp2_with fail
  refine (p_hex 255 (by omega) w).mono ?_
  rintro e w1 ⟨rfl, hk⟩
  have HK : Hid (Kept [] w w1) := hk
  clear hk
  have hx := hex_ff
  generalize hexT 255 = t at *
  go_wp2_with fail
  refine (num 0 _).mono ?_
  rintro e w2 ⟨rfl, hw⟩
  have hw2 := hw.symm; subst hw2; clear hw
  go_wp2_with fail
  go_ret
  exact ⟨rfl, HK.out⟩

/-! ### One byte -/

theorem stp_inj {h k : BitVec 64} {b : Nat} (e : stp h b = stp k b) : h = k := by
  unfold stp at e
  have e2 := congrArg (· * 14886173955864302971#64) e
  simp only [BitVec.mul_assoc] at e2
  rw [show (1099511628211#64 * 14886173955864302971#64 : BitVec 64) = 1#64 from by decide, BitVec.mul_one, BitVec.mul_one] at e2
  have e3 := congrArg (· ^^^ BitVec.ofNat 64 b) e2
  simpa [BitVec.xor_assoc] using e3

theorem stp_byte {h : BitVec 64} {b c : Nat} (hb : b < 256) (hc : c < 256) (e : stp h b = stp h c) : b = c := by
  unfold stp at e
  have e2 := congrArg (· * 14886173955864302971#64) e
  simp only [BitVec.mul_assoc] at e2
  rw [show (1099511628211#64 * 14886173955864302971#64 : BitVec 64) = 1#64 from by decide, BitVec.mul_one, BitVec.mul_one] at e2
  have e3 := congrArg (h ^^^ ·) e2
  simp only [← BitVec.xor_assoc, BitVec.xor_self, BitVec.zero_xor] at e3
  have e4 := congrArg BitVec.toNat e3
  rw [BitVec.toNat_ofNat, BitVec.toNat_ofNat] at e4
  omega

theorem sumL_inj (l : List UInt8) : ∀ {h k : BitVec 64}, sumL l h = sumL l k → h = k := by
  induction l with
  | nil => intro h k e; exact e
  | cons b l ih => intro h k e; rw [sumL_cons, sumL_cons] at e; exact stp_inj (ih e)

theorem sumL_append (a b : List UInt8) (h : BitVec 64) : sumL (a ++ b) h = sumL b (sumL a h) := by
  unfold sumL; rw [List.foldl_append]

theorem sumL_one (a b : List UInt8) (x y : UInt8) (h : BitVec 64) (e : sumL (a ++ x :: b) h = sumL (a ++ y :: b) h) : x = y := by
  rw [sumL_append, sumL_append, sumL_cons, sumL_cons] at e
  exact UInt8.toNat_inj.1 (stp_byte x.toNat_lt y.toNat_lt (sumL_inj b e))

theorem sumS_push (s : ByteArray) (x : UInt8) : sumS (s ++ ⟨#[x]⟩) = stp (sumS s) x.toNat := by
  unfold sumS
  rw [ByteArray.toList_eq, ByteArray.toList_eq, ByteArray.data_append, Array.toList_append, sumL_append]
  rfl

theorem conv_at (W : World) (B b : Nat) (hb : b < 256) (h : W.heap[B]? = some (.cells #[.int .u8 (b : Int)] 5)) : (convert 28 9 (.slice (some ⟨B, 0, none⟩) 1 1)).run Try.prog W = .ok (.string ⟨#[UInt8.ofNat b]⟩) W := by
  have h1 := run_convert_bytes_arg (P := Try.prog) W 28 5 Try.underlying28 Try.underlying5 B 0 1 1 [(b : Int)] rfl (fun i hi => by
    have : i = 0 := by simp at hi; omega
    subst this
    simp [World.cell?, h]) 9 Try.underlying9
  have h2 : strOfNums [(b : Int)] = ⟨#[UInt8.ofNat b]⟩ := by
    have h3 := strOfNums_data [(b : Int)]
    cases hh : strOfNums [(b : Int)] with
    | mk d =>
      rw [hh] at h3
      have : d = #[UInt8.ofNat b] := by
        apply Array.ext'
        rw [h3]; simp
      rw [this]
  rw [h2] at h1
  exact h1

theorem conv_one (w : World) (b : Nat) (hb : b < 256) : (convert 28 9 (.slice (some ⟨w.heap.size, 0, none⟩) 1 1)).run Try.prog (w.alloc (.cells #[.int .u8 (b : Int)] 5)) = .ok (.string ⟨#[UInt8.ofNat b]⟩) (w.alloc (.cells #[.int .u8 (b : Int)] 5)) :=
  conv_at _ _ b hb (by show (w.heap.push _)[w.heap.size]? = _; simp)

theorem conv_bytes (t : ByteArray) (w : World) : ∃ W cap, (convert 9 28 (.string t)).run Try.prog w = .ok (.slice (some ⟨w.heap.size, 0, none⟩) t.size cap) W ∧ Kept [] w W ∧
    (∀ i (h : i < t.size), W.cell? ⟨w.heap.size, i, none⟩ = some (.int .u8 ((t[i]'h).toNat : Int))) ∧ ∀ i, i < t.size → W.frozen? ⟨w.heap.size, i, none⟩ = false := by
  refine ⟨_, _, run_bytes_of_string (P := Try.prog) w 9 28 5 t Try.underlying9 Try.underlying28 Try.underlying5, (Kept.refl [] w).drew.alloc _, ?_, ?_⟩
  · intro i h
    have e : (w.drew.alloc (.cells (bytesRow t (grownCap w t.size 0 5)) 5 ((bytesRow t (grownCap w t.size 0 5)).size, (bytesRow t (grownCap w t.size 0 5)).size + 1))).heap[w.heap.size]? = some (.cells (bytesRow t (grownCap w t.size 0 5)) 5 ((bytesRow t (grownCap w t.size 0 5)).size, (bytesRow t (grownCap w t.size 0 5)).size + 1)) := by
      show (w.heap.push _)[w.heap.size]? = _; rw [Array.getElem?_push, if_pos rfl]
    have e2 := bytesRow_at t (grownCap w t.size 0 5) i h
    generalize bytesRow t (grownCap w t.size 0 5) = R at *
    unfold World.cell?
    simp only [e]
    exact e2
  · intro i h
    have e : (w.drew.alloc (.cells (bytesRow t (grownCap w t.size 0 5)) 5 ((bytesRow t (grownCap w t.size 0 5)).size, (bytesRow t (grownCap w t.size 0 5)).size + 1))).heap[w.heap.size]? = some (.cells (bytesRow t (grownCap w t.size 0 5)) 5 ((bytesRow t (grownCap w t.size 0 5)).size, (bytesRow t (grownCap w t.size 0 5)).size + 1)) := by
      show (w.heap.push _)[w.heap.size]? = _; rw [Array.getElem?_push, if_pos rfl]
    have e2 := bytesRow_at t (grownCap w t.size 0 5) i h
    generalize bytesRow t (grownCap w t.size 0 5) = R at *
    have h3 := (Array.getElem?_eq_some_iff.1 e2).1
    unfold World.frozen?
    simp only [e]
    simp
    omega

/-- Bytes as numbers. -/
def numsOf (t : ByteArray) : List Int := t.toList.map fun b => (b.toNat : Int)

theorem numsOf_length (t : ByteArray) : (numsOf t).length = t.size := by unfold numsOf; rw [List.length_map, ByteArray.toList_eq]; rfl

theorem numsOf_at (t : ByteArray) {i : Nat} (h : i < t.size) : (numsOf t).getD i 0 = ((t[i]'h).toNat : Int) := by
  have hl : i < t.toList.length := by rw [ByteArray.toList_eq]; exact h
  unfold numsOf
  rw [List.getD_eq_getElem?_getD, List.getElem?_map, List.getElem?_eq_getElem hl, toList_at h hl]
  rfl

theorem conv_turned {W : World} {B cap : Nat} (t : ByteArray) (k v : Nat) (hk : k < t.size)
    (h : ∀ i (h : i < t.size), W.cell? ⟨B, i, none⟩ = some (.int .u8 ((t[i]'h).toNat : Int))) :
    ∀ n, (convert 28 9 (.slice (some ⟨B, 0, none⟩) t.size cap)).run Try.prog ((W.setCell ⟨B, k, none⟩ (.int .u8 (v : Int))).drewN n) = .ok (.string (strOfNums ((numsOf t).set k (v : Int)))) ((W.setCell ⟨B, k, none⟩ (.int .u8 (v : Int))).drewN n) := by
  intro n
  refine run_convert_bytes_arg (P := Try.prog) _ 28 5 Try.underlying28 Try.underlying5 B 0 t.size cap _ (by rw [List.length_set, numsOf_length]) (fun i hi => ?_) 9 Try.underlying9
  rw [Nat.zero_add]
  have hi2 : i < t.size := hi
  show (W.setCell ⟨B, k, none⟩ (.int .u8 (v : Int))).cell? ⟨B, i, none⟩ = _
  by_cases e : i = k
  · subst e
    rw [World.cell?_setCell_same W _ _ (h i hi2)]
    simp [numsOf_length, hi2]
  · rw [World.cell?_setCell_other W _ _ _ (by intro h; exact e (by cases h; rfl)), h i hi2, ← numsOf_at t hi2]
    congr 2
    rw [List.getD_eq_getElem?_getD, List.getD_eq_getElem?_getD, List.getElem?_set, if_neg (fun h => e h.symm)]

theorem sumS_turned (t : ByteArray) (k v : Nat) (hk : k < t.size) (hv : v < 256) (hn : v ≠ (t[k]'hk).toNat) : sumS (strOfNums ((numsOf t).set k (v : Int))) ≠ sumS t := by
  have hl : k < t.toList.length := by rw [ByteArray.toList_eq]; exact hk
  have e : (strOfNums ((numsOf t).set k (v : Int))).toList = t.toList.set k (UInt8.ofNat v) := by
    rw [ByteArray.toList_eq, strOfNums_data, List.map_set]
    unfold numsOf
    rw [List.map_map]
    have : (fun n : Int => UInt8.ofNat n.toNat) ∘ (fun b : UInt8 => (b.toNat : Int)) = id := by
      funext b; simp
    rw [this, List.map_id]
    rfl
  unfold sumS
  rw [e]
  intro h
  have e1 : t.toList = t.toList.take k ++ (t[k]'hk) :: t.toList.drop (k + 1) := by
    rw [← toList_at hk hl, ← List.drop_eq_getElem_cons hl, List.take_append_drop]
  have e2 : t.toList.set k (UInt8.ofNat v) = t.toList.take k ++ UInt8.ofNat v :: t.toList.drop (k + 1) := by
    rw [List.set_eq_take_append_cons_drop, if_pos hl]
  rw [e2] at h
  have h2 := h.trans (congrArg (fun l => sumL l _) e1)
  have h3 := sumL_one _ _ _ _ _ h2
  apply hn
  rw [← h3, UInt8.toNat_ofNat_of_lt' (by show v < 256; omega)]

theorem xor_turned (b d : Nat) (hb : b < 256) (hd : 0 < d) (hd2 : d < 256) : ∃ v : Nat, bits .xor .u8 (b : Int) (d : Int) = (v : Int) ∧ v < 256 ∧ v ≠ b := by
  have e1 : bits .xor .u8 (b : Int) (d : Int) = ((BitVec.ofNat 8 b ^^^ BitVec.ofNat 8 d).toNat : Int) := by
    show IntKind.u8.wrap ((BitVec.ofInt 8 (b : Int) ^^^ BitVec.ofInt 8 (d : Int)).toNat : Nat) = _
    rw [BitVec.ofInt_natCast, BitVec.ofInt_natCast, IntKind.wrap_u8]
    have := (BitVec.ofNat 8 b ^^^ BitVec.ofNat 8 d).isLt
    omega
  refine ⟨_, e1, (BitVec.ofNat 8 b ^^^ BitVec.ofNat 8 d).isLt, ?_⟩
  intro h
  have h1 : BitVec.ofNat 8 b ^^^ BitVec.ofNat 8 d = BitVec.ofNat 8 b := by
    apply BitVec.eq_of_toNat_eq
    rw [h, BitVec.toNat_ofNat]
    omega
  have h2 := congrArg (BitVec.ofNat 8 b ^^^ ·) h1
  simp only [← BitVec.xor_assoc, BitVec.xor_self, BitVec.zero_xor] at h2
  have h3 := congrArg BitVec.toNat h2
  rw [BitVec.toNat_ofNat] at h3
  simp at h3
  omega

theorem urem_at (x : Int) (n : Nat) (h0 : 0 < n) (hn : n ≤ 140737488351233) : ∃ k : Nat, wrap64 ((IntKind.u64.wrap x).tmod (n : Int)) = (k : Int) ∧ k < n := by
  have hu : 0 ≤ IntKind.u64.wrap x := by rw [IntKind.wrap_u64]; omega
  generalize IntKind.u64.wrap x = u at *
  have h1 := Int.emod_nonneg u (by omega : (n : Int) ≠ 0)
  have h2 := Int.emod_lt_of_pos u (by omega : 0 < (n : Int))
  rw [Int.tmod_eq_emod_of_nonneg hu, Go.IntWalk.wrap64_in _ ⟨by omega, by omega⟩]
  exact ⟨(u % (n : Int)).toNat, by omega, by omega⟩

theorem urem_255 (y : Int) : ∃ d : Nat, wrap64 (1 + wrap64 ((IntKind.u64.wrap y).tmod 255)) % 256 = (d : Int) ∧ 0 < d ∧ d < 256 := by
  obtain ⟨k, hk, hk2⟩ := urem_at y 255 (by omega) (by omega)
  have hk' : wrap64 ((IntKind.u64.wrap y).tmod 255) = (k : Int) := hk
  rw [hk', Go.IntWalk.wrap64_in _ ⟨by omega, by omega⟩]
  exact ⟨k + 1, by omega, by omega, by omega⟩

theorem parts_whole (t : ByteArray) (k : Nat) (hk : k ≤ t.size) : t.extract 0 k ++ t.extract k t.size = t := by
  rw [← ByteArray.extract_eq_extract_append_extract k (by omega) hk, ByteArray.extract_zero_size]

/-! ### Digits -/

theorem hexS_at (k : Nat) : ∀ (x : Nat) (l : List Int) (j : Nat), k ≤ l.length → (hexS k x l).getD j 0 = if j < k then dg (x / 16 ^ (k - 1 - j) % 16) else l.getD j 0 := by
  induction k with
  | zero => intro x l j h; simp [hexS]
  | succ k ih =>
    intro x l j h
    rw [hexS, ih _ _ _ (by rw [List.length_set]; omega)]
    by_cases h1 : j < k
    · rw [if_pos h1, if_pos (by omega), Nat.div_div_eq_div_mul, show 16 * 16 ^ (k - 1 - j) = 16 ^ (k + 1 - 1 - j) from by rw [show k + 1 - 1 - j = (k - 1 - j) + 1 from by omega, Nat.pow_succ, Nat.mul_comm]]
    · rw [if_neg h1]
      by_cases h2 : j = k
      · subst h2
        rw [if_pos (by omega), show j + 1 - 1 - j = 0 from by omega, Nat.pow_zero, Nat.div_one]
        simp [show j < l.length from by omega]
      · rw [if_neg (by omega)]
        simp [show ¬ k = j from fun e => h2 e.symm]

theorem hexT_list (x : Nat) : (hexT x).toList = (hexL x).map fun n => UInt8.ofNat n.toNat := by
  rw [ByteArray.toList_eq]; unfold hexT; rw [strOfNums_data]

theorem dg_byte {d : Nat} (h : d < 16) : ((UInt8.ofNat (dg d).toNat).toNat : Int) = dg d := by
  have : ∀ d : Fin 16, ((UInt8.ofNat (dg d.1).toNat).toNat : Int) = dg d.1 := by decide +kernel
  exact this ⟨d, h⟩

theorem hexL_at (x j : Nat) (hj : j < 16) : (hexL x)[j]? = some (dg (x / 16 ^ (15 - j) % 16)) := by
  have := hexS_at 16 x (List.replicate 16 0) j (by rw [List.length_replicate]; omega)
  rw [if_pos hj] at this
  have h3 : j < (hexL x).length := by rw [hexL_length]; exact hj
  rw [List.getElem?_eq_getElem h3]
  have h4 : (hexL x)[j]'h3 = (hexL x).getD j 0 := by rw [List.getD_eq_getElem?_getD, List.getElem?_eq_getElem h3]; rfl
  rw [h4]
  exact congrArg some this

theorem hexT_at (x j : Nat) (hj : j < 16) (t : ByteArray) (ht : t = hexT x) (h : j < t.size) : ((t[j]'h).toNat : Int) = dg (x / 16 ^ (15 - j) % 16) := by
  have e := hexT_list x
  rw [← ht] at e
  have hl : j < t.toList.length := by rw [e, List.length_map, hexL_length]; exact hj
  have e1 := toList_at h hl
  have e2 : t.toList[j]? = some (UInt8.ofNat (dg (x / 16 ^ (15 - j) % 16)).toNat) := by
    rw [e, List.getElem?_map, hexL_at x j hj]; rfl
  rw [List.getElem?_eq_getElem hl, e1] at e2
  rw [Option.some.inj e2]
  exact dg_byte (Nat.mod_lt _ (by omega))

theorem dg_low {d : Nat} (h : d < 10) : dg d = (d : Int) + 48 := by
  have : ∀ d : Fin 10, dg d.1 = (d.1 : Int) + 48 := by decide +kernel
  exact this ⟨d, h⟩

theorem dg_high {d : Nat} (h : 10 ≤ d) (h2 : d < 16) : dg d = (d : Int) + 87 := by
  have : ∀ d : Fin 16, 10 ≤ d.1 → dg d.1 = (d.1 : Int) + 87 := by decide +kernel
  exact this ⟨d, h2⟩ h

end Go.Proofs.Ytinhmmghpmcblaa
