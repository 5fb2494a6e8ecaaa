/-
  Why a heap of a share has room for all that a quarter of it allows, in whatever row pieces come and go: bounds ahead of which the pieces of each level lie, reckoned for each share.
-/
import Derived.Test.YtagnkdeeiligcaaDoorTk
namespace Go.Proofs.YtagnkdeeiligcaaDoor

def sm (f : Nat → Nat) : Nat → Nat
  | 0 => 0
  | n + 1 => sm f n + f n

theorem sm_le {f g : Nat → Nat} (n : Nat) (h : ∀ s, s < n → f s ≤ g s) : sm f n ≤ sm g n := by
  induction n with
  | zero => exact Nat.le_refl _
  | succ n ih =>
    have h1 := ih (fun s hs => h s (by omega))
    have h2 := h n (by omega)
    simp only [sm]; omega

theorem sm_add (f g : Nat → Nat) (n : Nat) : sm (fun s => f s + g s) n = sm f n + sm g n := by
  induction n with
  | zero => rfl
  | succ n ih => simp only [sm]; omega

theorem sm_one (n s0 v : Nat) : sm (fun s => if s = s0 then v else 0) n = if s0 < n then v else 0 := by
  induction n with
  | zero => rfl
  | succ n ih =>
    simp only [sm, ih]
    by_cases h1 : s0 < n
    · rw [if_pos h1, if_neg (by omega), if_pos (by omega)]; omega
    · by_cases h2 : n = s0
      · rw [if_neg h1, if_pos h2, if_pos (by omega)]; omega
      · rw [if_neg h1, if_neg h2, if_neg (by omega)]

theorem sm_span (n lo k v : Nat) : sm (fun s => if lo ≤ s ∧ s < lo + k then v else 0) n = (min n (lo + k) - min n lo) * v := by
  induction n with
  | zero => simp [sm]
  | succ n ih =>
    simp only [sm, ih]
    by_cases h : lo ≤ n ∧ n < lo + k
    · rw [if_pos h, show min (n + 1) (lo + k) - min (n + 1) lo = (min n (lo + k) - min n lo) + 1 from by omega, Nat.succ_mul]
    · rw [if_neg h, show min (n + 1) (lo + k) - min (n + 1) lo = min n (lo + k) - min n lo from by omega]; rfl

/-- What a piece of a level counts for, at least. -/
def cst (l : Nat) : Nat := [3, 4, 5, 7, 11, 19].getD l 0
/-- What a slot counts for (times 32) that a greater piece blocks, at least. -/
def gre (l : Nat) : Nat := [34, 66, 112, 176, 304, 1000000].getD l 0

/-- What a slot of level l counts for (times 32), at least. -/
def wt (B : List Nat) (l i : Nat) : Nat := (List.range l).foldl (fun acc m => if i * 2 ^ l < B.getD m 0 then min acc (32 * cst m) else acc) (min (gre l) (32 * cst l))

def good (M : Nat) (B : List Nat) : Bool := (List.range 6).all fun l => !(decide (cst l ≤ M)) || (decide (32 * M < sm (wt B l) (B.getD l 0 / 2 ^ l) + 32 * cst l) && decide (B.getD l 0 % 2 ^ l = 0) && (List.range 4).all fun r => decide (B.getD l 0 ≤ room (4 * M + r)))

def bds : List (List Nat) := [
  [13, 12, 16, 24, 32, 0],
  [14, 14, 20, 24, 32, 0],
  [15, 14, 20, 32, 32, 0],
  [16, 16, 20, 32, 48, 32],
  [17, 16, 24, 32, 48, 32],
  [17, 18, 24, 32, 48, 32],
  [18, 18, 24, 40, 48, 64],
  [19, 20, 24, 40, 48, 64],
  [20, 20, 28, 40, 64, 64],
  [21, 22, 28, 40, 64, 64],
  [22, 22, 28, 40, 64, 64],
  [23, 24, 32, 48, 64, 64],
  [24, 24, 32, 48, 64, 64],
  [25, 26, 32, 48, 64, 96],
  [26, 26, 36, 56, 80, 96],
  [27, 28, 36, 56, 80, 96],
  [28, 28, 36, 56, 80, 96],
  [29, 30, 40, 56, 80, 96],
  [30, 30, 40, 56, 80, 96],
  [31, 32, 40, 64, 80, 96],
  [32, 32, 44, 64, 80, 96],
  [33, 34, 44, 64, 96, 128],
  [33, 34, 44, 72, 96, 128],
  [34, 34, 48, 72, 96, 128],
  [35, 36, 48, 72, 96, 128],
  [36, 36, 48, 72, 96, 128],
  [37, 38, 52, 72, 112, 128],
  [38, 38, 52, 80, 112, 160],
  [39, 40, 52, 80, 112, 160],
  [40, 40, 52, 80, 112, 160],
  [41, 42, 56, 80, 112, 160],
  [42, 42, 56, 88, 112, 160],
  [43, 44, 56, 88, 112, 160],
  [44, 44, 60, 88, 128, 160],
  [45, 46, 60, 88, 128, 160],
  [46, 46, 60, 88, 128, 160],
  [47, 48, 64, 96, 128, 160],
  [48, 48, 64, 96, 128, 160],
  [49, 50, 64, 96, 128, 160],
  [49, 50, 68, 104, 144, 192],
  [50, 52, 68, 104, 144, 192],
  [51, 52, 68, 104, 144, 192],
  [52, 54, 72, 104, 144, 192],
  [53, 54, 72, 104, 144, 192],
  [54, 56, 72, 112, 144, 192],
  [55, 56, 76, 112, 160, 192],
  [56, 58, 76, 112, 160, 192],
  [57, 58, 76, 120, 160, 192],
  [58, 60, 80, 120, 160, 192],
  [59, 60, 80, 120, 160, 192],
  [60, 62, 80, 120, 160, 192],
  [61, 62, 84, 120, 176, 224],
  [62, 64, 84, 128, 176, 224],
  [63, 64, 84, 128, 176, 224],
  [64, 66, 84, 128, 176, 224],
  [65, 66, 88, 128, 176, 224],
  [65, 66, 88, 136, 192, 256],
  [66, 68, 88, 136, 192, 256],
  [67, 68, 92, 136, 192, 256],
  [68, 70, 92, 136, 192, 256],
  [69, 70, 92, 136, 192, 256],
  [70, 72, 96, 144, 192, 256],
  [71, 72, 96, 144, 192, 256],
  [72, 74, 96, 144, 192, 256],
  [73, 74, 100, 152, 208, 256],
  [74, 76, 100, 152, 208, 288],
  [75, 76, 100, 152, 208, 288],
  [76, 78, 104, 152, 208, 288],
  [77, 78, 104, 152, 208, 288],
  [78, 80, 104, 160, 208, 288],
  [79, 80, 108, 160, 224, 288],
  [80, 82, 108, 160, 224, 288],
  [81, 82, 108, 168, 224, 288],
  [81, 84, 112, 168, 224, 288],
  [82, 84, 112, 168, 224, 288],
  [83, 86, 112, 168, 240, 320],
  [84, 86, 112, 168, 240, 320],
  [85, 88, 116, 176, 240, 320],
  [86, 88, 116, 176, 240, 320],
  [87, 90, 116, 176, 240, 320],
  [88, 90, 120, 176, 240, 320],
  [89, 92, 120, 184, 256, 320],
  [90, 92, 120, 184, 256, 320],
  [91, 94, 124, 184, 256, 320],
  [92, 94, 124, 184, 256, 320],
  [93, 96, 124, 184, 256, 320],
  [94, 96, 128, 192, 256, 320],
  [95, 98, 128, 192, 256, 320],
  [96, 98, 128, 192, 272, 352],
  [97, 98, 132, 200, 272, 352],
  [97, 100, 132, 200, 272, 352],
  [98, 100, 132, 200, 272, 352],
  [99, 102, 136, 200, 288, 352],
  [100, 102, 136, 200, 288, 352],
  [101, 104, 136, 208, 288, 384],
  [102, 104, 140, 208, 288, 384],
  [103, 106, 140, 208, 288, 384],
  [104, 106, 140, 208, 288, 384],
  [105, 108, 144, 216, 288, 384],
  [106, 108, 144, 216, 304, 384],
  [107, 110, 144, 216, 304, 384],
  [108, 110, 144, 216, 304, 384],
  [109, 112, 148, 224, 304, 384],
  [110, 112, 148, 224, 304, 384],
  [111, 114, 148, 224, 304, 384],
  [112, 114, 152, 224, 304, 416],
  [113, 116, 152, 232, 320, 416],
  [113, 116, 152, 232, 320, 416],
  [114, 118, 156, 232, 320, 416],
  [115, 118, 156, 232, 320, 416],
  [116, 120, 156, 232, 320, 416],
  [117, 120, 160, 240, 320, 416],
  [118, 122, 160, 240, 336, 448],
  [119, 122, 160, 240, 336, 448],
  [120, 124, 164, 240, 336, 448],
  [121, 124, 164, 248, 336, 448],
  [122, 126, 164, 248, 336, 448],
  [123, 126, 168, 248, 352, 448],
  [124, 128, 168, 248, 352, 448],
  [125, 128, 168, 256, 352, 448],
  [126, 130, 172, 256, 352, 448],
  [127, 130, 172, 256, 352, 448],
  [128, 130, 172, 256, 352, 448],
  [129, 132, 176, 264, 368, 480],
  [129, 132, 176, 264, 368, 480],
  [130, 134, 176, 264, 368, 480],
  [131, 134, 176, 264, 368, 480],
  [132, 136, 180, 272, 368, 480],
  [133, 136, 180, 272, 368, 480],
  [134, 138, 180, 272, 384, 480],
  [135, 138, 184, 272, 384, 480],
  [136, 140, 184, 272, 384, 480],
  [137, 140, 184, 280, 384, 480],
  [138, 142, 188, 280, 384, 480],
  [139, 142, 188, 280, 384, 512],
  [140, 144, 188, 280, 384, 512],
  [141, 144, 192, 288, 400, 512],
  [142, 146, 192, 288, 400, 512],
  [143, 146, 192, 288, 400, 512],
  [144, 148, 196, 288, 400, 512],
  [145, 148, 196, 296, 416, 544],
  [145, 150, 196, 296, 416, 544],
  [146, 150, 200, 296, 416, 544],
  [147, 152, 200, 296, 416, 544],
  [148, 152, 200, 304, 416, 544],
  [149, 154, 204, 304, 416, 544],
  [150, 154, 204, 304, 416, 544],
  [151, 156, 204, 304, 416, 544],
  [152, 156, 204, 312, 432, 544],
  [153, 158, 208, 312, 432, 544],
  [154, 158, 208, 312, 432, 576],
  [155, 160, 208, 312, 432, 576],
  [156, 160, 212, 320, 432, 576],
  [157, 162, 212, 320, 448, 576],
  [158, 162, 212, 320, 448, 576],
  [159, 162, 216, 320, 448, 576],
  [160, 164, 216, 320, 448, 576],
  [161, 164, 216, 328, 448, 576],
  [161, 166, 220, 328, 448, 576],
  [162, 166, 220, 328, 464, 608],
  [163, 168, 220, 328, 464, 608],
  [164, 168, 224, 336, 464, 608],
  [165, 170, 224, 336, 464, 608],
  [166, 170, 224, 336, 464, 608],
  [167, 172, 228, 336, 464, 608],
  [168, 172, 228, 344, 480, 608],
  [169, 174, 228, 344, 480, 608],
  [170, 174, 232, 344, 480, 608],
  [171, 176, 232, 344, 480, 608],
  [172, 176, 232, 352, 480, 608],
  [173, 178, 236, 352, 480, 608],
  [174, 178, 236, 352, 480, 608],
  [175, 180, 236, 352, 496, 640],
  [176, 180, 236, 360, 496, 640],
  [177, 182, 240, 360, 496, 640],
  [177, 182, 240, 360, 496, 640],
  [178, 184, 240, 360, 496, 640],
  [179, 184, 244, 368, 512, 640],
  [180, 186, 244, 368, 512, 640],
  [181, 186, 244, 368, 512, 672],
  [182, 188, 248, 368, 512, 672],
  [183, 188, 248, 368, 512, 672],
  [184, 190, 248, 376, 512, 672],
  [185, 190, 252, 376, 528, 672],
  [186, 192, 252, 376, 528, 672],
  [187, 192, 252, 376, 528, 672],
  [188, 194, 256, 384, 528, 672],
  [189, 194, 256, 384, 528, 672],
  [190, 194, 256, 384, 528, 672],
  [191, 196, 260, 384, 528, 704],
  [192, 196, 260, 392, 544, 704],
  [193, 198, 260, 392, 544, 704],
  [193, 198, 264, 392, 544, 704],
  [194, 200, 264, 392, 544, 704],
  [195, 200, 264, 400, 544, 704],
  [196, 202, 264, 400, 544, 704],
  [197, 202, 268, 400, 560, 736],
  [198, 204, 268, 400, 560, 736],
  [199, 204, 268, 408, 560, 736],
  [200, 206, 272, 408, 560, 736],
  [201, 206, 272, 408, 560, 736],
  [202, 208, 272, 408, 560, 736],
  [203, 208, 276, 416, 576, 736],
  [204, 210, 276, 416, 576, 736],
  [205, 210, 276, 416, 576, 736],
  [206, 212, 280, 416, 576, 736],
  [207, 212, 280, 416, 576, 736],
  [208, 214, 280, 424, 592, 768],
  [209, 214, 284, 424, 592, 768],
  [209, 216, 284, 424, 592, 768],
  [210, 216, 284, 424, 592, 768],
  [211, 218, 288, 432, 592, 768],
  [212, 218, 288, 432, 592, 768],
  [213, 220, 288, 432, 592, 768],
  [214, 220, 292, 432, 608, 768],
  [215, 222, 292, 440, 608, 768],
  [216, 222, 292, 440, 608, 768],
  [217, 224, 296, 440, 608, 800],
  [218, 224, 296, 440, 608, 800],
  [219, 226, 296, 448, 624, 800],
  [220, 226, 296, 448, 624, 800],
  [221, 226, 300, 448, 624, 800],
  [222, 228, 300, 448, 624, 800],
  [223, 228, 300, 456, 624, 832],
  [224, 230, 304, 456, 624, 832],
  [225, 230, 304, 456, 640, 832],
  [225, 232, 304, 456, 640, 832],
  [226, 232, 308, 464, 640, 832],
  [227, 234, 308, 464, 640, 832],
  [228, 234, 308, 464, 640, 832],
  [229, 236, 312, 464, 640, 832],
  [230, 236, 312, 464, 640, 832],
  [231, 238, 312, 472, 656, 832],
  [232, 238, 316, 472, 656, 864],
  [233, 240, 316, 472, 656, 864]]

def bd (n : Nat) : List Nat := bds.getD (n / 4 - 16) []

set_option maxRecDepth 100000 in
theorem good_all : ((List.range 235).all fun k => good (k + 16) (bds.getD k [])) = true := by decide +kernel

theorem good_at {n : Nat} (h0 : 64 ≤ n) (h1 : n ≤ 1000) {l : Nat} (hl : l < 6) (hc : cst l ≤ n / 4) : 32 * (n / 4) < sm (wt (bd n) l) ((bd n).getD l 0 / 2 ^ l) + 32 * cst l ∧ (bd n).getD l 0 % 2 ^ l = 0 ∧ (bd n).getD l 0 ≤ room n := by
  have h := List.all_eq_true.1 good_all (n / 4 - 16) (List.mem_range.2 (by omega))
  rw [show n / 4 - 16 + 16 = n / 4 from by omega] at h
  have h2 := List.all_eq_true.1 h l (List.mem_range.2 hl)
  simp only [Bool.or_eq_true, Bool.not_eq_true', decide_eq_false_iff_not, Bool.and_eq_true, decide_eq_true_eq, List.all_eq_true, List.mem_range] at h2
  rcases h2 with h3 | ⟨⟨h3, h4⟩, h5⟩
  · exact absurd hc h3
  · refine ⟨h3, h4, ?_⟩
    have h6 := h5 (n % 4) (Nat.mod_lt _ (by omega))
    rw [show 4 * (n / 4) + n % 4 = n from by omega] at h6
    exact h6

theorem fold_le (B : List Nat) (x : Nat) : ∀ (ms : List Nat) (a : Nat), ms.foldl (fun acc m => if x < B.getD m 0 then min acc (32 * cst m) else acc) a ≤ a := by
  intro ms
  induction ms with
  | nil => intro a; exact Nat.le_refl _
  | cons m ms ih =>
    intro a
    rw [List.foldl_cons]
    refine Nat.le_trans (ih _) ?_
    split
    · exact Nat.min_le_left _ _
    · exact Nat.le_refl _

theorem fold_at (B : List Nat) (x : Nat) : ∀ (ms : List Nat) (a m : Nat), m ∈ ms → x < B.getD m 0 → ms.foldl (fun acc m => if x < B.getD m 0 then min acc (32 * cst m) else acc) a ≤ 32 * cst m := by
  intro ms
  induction ms with
  | nil => intro a m h; cases h
  | cons k ms ih =>
    intro a m h hx
    rw [List.foldl_cons]
    rcases List.mem_cons.1 h with rfl | h
    · refine Nat.le_trans (fold_le B x ms _) ?_
      rw [if_pos hx]; exact Nat.min_le_right _ _
    · exact ih _ m h hx

theorem wt_gre (B : List Nat) (l i : Nat) : wt B l i ≤ gre l := Nat.le_trans (fold_le _ _ _ _) (Nat.min_le_left _ _)
theorem wt_own (B : List Nat) (l i : Nat) : wt B l i ≤ 32 * cst l := Nat.le_trans (fold_le _ _ _ _) (Nat.min_le_right _ _)
theorem wt_low (B : List Nat) (l i m : Nat) (hm : m < l) (hx : i * 2 ^ l < B.getD m 0) : wt B l i ≤ 32 * cst m := fold_at _ _ _ _ _ (List.mem_range.2 hm) hx

theorem cst_le : ∀ z : Fin 33, 1 ≤ z.1 → cst (lv z.1) ≤ z.1 + 2 := by decide +kernel
theorem gre_le : ∀ l : Fin 6, ∀ z : Fin 33, l.1 < lv z.1 → (z.1 + 2 ^ l.1 - 1) / 2 ^ l.1 * gre l.1 ≤ 32 * (z.1 + 2) := by decide +kernel

/-- A piece: where it begins in the heap, and its size. -/
abbrev Pc := Nat × Nat

def loads (ps : List Pc) : Nat := (ps.map fun p => p.2 + 2).sum

/-- A piece has a word of a slot. -/
def hits (t : Nat) (p : Pc) (s : Nat) : Bool := decide (s * t < p.1 + p.2) && decide (p.1 < s * t + t)

/-- Pieces are of a right size, lie at a place of their own kind, ahead of their level's bound, within the heap, beside one another. -/
structure Ok (n : Nat) (ps : List Pc) : Prop where
  size : ∀ p ∈ ps, 1 ≤ p.2 ∧ p.2 ≤ 32
  al : ∀ p ∈ ps, p.1 % 2 ^ lv p.2 = 0
  bd : ∀ p ∈ ps, p.1 < (bd n).getD (lv p.2) 0
  fit : ∀ p ∈ ps, p.1 + p.2 ≤ room n
  dis : ps.Pairwise fun p q => p.1 + p.2 ≤ q.1 ∨ q.1 + q.2 ≤ p.1

theorem mod_low {x m l : Nat} (h : x % 2 ^ m = 0) (hl : l ≤ m) : x % 2 ^ l = 0 := by
  have h1 : 2 ^ l ∣ 2 ^ m := Nat.pow_dvd_pow 2 hl
  exact Nat.mod_eq_zero_of_dvd (Nat.dvd_trans h1 (Nat.dvd_of_mod_eq_zero h))

/-- A piece that is no greater than a slot lies in one. -/
theorem one_slot {x z m l : Nat} (hx : x % 2 ^ m = 0) (hz : z ≤ 2 ^ m) (hm : m ≤ l) (s : Nat) (h1 : s * 2 ^ l < x + z) (h2 : x < s * 2 ^ l + 2 ^ l) : s = x / 2 ^ l := by
  have hp : 0 < 2 ^ l := Nat.two_pow_pos l
  obtain ⟨k, hk⟩ := Nat.pow_dvd_pow 2 hm
  obtain ⟨q, hq⟩ := Nat.dvd_of_mod_eq_zero hx
  have hle : s * 2 ^ l ≤ x := by
    rw [hk] at h1 ⊢
    rw [hq] at h1 ⊢
    rw [Nat.mul_comm s, Nat.mul_assoc] at h1 ⊢
    have h3 : 2 ^ m * (k * s) < 2 ^ m * (q + 1) := by rw [Nat.mul_add]; omega
    have h4 := Nat.lt_of_mul_lt_mul_left h3
    exact Nat.mul_le_mul_left _ (by omega)
  apply Eq.symm
  apply Nat.div_eq_of_lt_le
  · exact hle
  · rw [Nat.succ_mul]; exact h2

theorem piece_sum (B : List Nat) (l : Nat) (hl : l < 6) (S : Nat) (p : Pc) (hz0 : 1 ≤ p.2) (hz : p.2 ≤ 32) (ha : p.1 % 2 ^ lv p.2 = 0) (hb : p.1 < B.getD (lv p.2) 0) :
    sm (fun s => if hits (2 ^ l) p s then wt B l s else 0) S ≤ 32 * (p.2 + 2) := by
  have hp : 0 < 2 ^ l := Nat.two_pow_pos l
  by_cases hm : lv p.2 ≤ l
  · have h1 : sm (fun s => if hits (2 ^ l) p s then wt B l s else 0) S ≤ sm (fun s => if s = p.1 / 2 ^ l then 32 * cst (lv p.2) else 0) S := by
      refine sm_le S fun s _ => ?_
      by_cases hh : hits (2 ^ l) p s = true
      · rw [if_pos hh]
        simp only [hits, Bool.and_eq_true, decide_eq_true_eq] at hh
        have e := one_slot ha (lv_pow p.2 hz) hm s hh.1 hh.2
        rw [if_pos e]
        rcases Nat.lt_or_ge (lv p.2) l with h3 | h3
        · refine wt_low B l s _ h3 ?_
          have : s * 2 ^ l ≤ p.1 := by rw [e]; exact Nat.div_mul_le_self _ _
          omega
        · rw [show lv p.2 = l from by omega]; exact wt_own B l s
      · rw [if_neg hh]; exact Nat.zero_le _
    rw [sm_one] at h1
    have h2 := cst_le ⟨p.2, by omega⟩ hz0
    simp only at h2
    split at h1 <;> omega
  · have hx := mod_low (l := l) ha (by omega)
    have h1 : sm (fun s => if hits (2 ^ l) p s then wt B l s else 0) S ≤ sm (fun s => if p.1 / 2 ^ l ≤ s ∧ s < p.1 / 2 ^ l + (p.2 + 2 ^ l - 1) / 2 ^ l then gre l else 0) S := by
      refine sm_le S fun s _ => ?_
      by_cases hh : hits (2 ^ l) p s = true
      · rw [if_pos hh]
        simp only [hits, Bool.and_eq_true, decide_eq_true_eq] at hh
        have e : p.1 = p.1 / 2 ^ l * 2 ^ l := by have := Nat.div_add_mod p.1 (2 ^ l); rw [hx, Nat.mul_comm] at this; exact this.symm
        rw [if_pos ?_]
        · exact wt_gre B l s
        · generalize p.1 / 2 ^ l = y at *
          constructor
          · rcases Nat.lt_or_ge s y with h3 | h3
            · have h4 : (s + 1) * 2 ^ l ≤ y * 2 ^ l := Nat.mul_le_mul_right _ h3
              rw [Nat.succ_mul] at h4
              omega
            · exact h3
          · rcases Nat.lt_or_ge s (y + (p.2 + 2 ^ l - 1) / 2 ^ l) with h3 | h3
            · exact h3
            · have h4 : (y + (p.2 + 2 ^ l - 1) / 2 ^ l) * 2 ^ l ≤ s * 2 ^ l := Nat.mul_le_mul_right _ h3
              rw [Nat.add_mul] at h4
              have h5 := Nat.div_add_mod (p.2 + 2 ^ l - 1) (2 ^ l)
              have h6 := Nat.mod_lt (p.2 + 2 ^ l - 1) hp
              rw [Nat.mul_comm] at h5
              omega
      · rw [if_neg hh]; exact Nat.zero_le _
    rw [sm_span] at h1
    have h2 := gre_le ⟨l, hl⟩ ⟨p.2, by omega⟩ (by simp only; omega)
    simp only at h2
    have h3 : min S (p.1 / 2 ^ l + (p.2 + 2 ^ l - 1) / 2 ^ l) - min S (p.1 / 2 ^ l) ≤ (p.2 + 2 ^ l - 1) / 2 ^ l := by
      generalize p.1 / 2 ^ l = y
      generalize (p.2 + 2 ^ l - 1) / 2 ^ l = k
      clear h1 h2 hx hm ha hb hz hz0
      omega
    exact Nat.le_trans h1 (Nat.le_trans (Nat.mul_le_mul_right _ h3) h2)

theorem hit_sum (B : List Nat) (l : Nat) (hl : l < 6) (S : Nat) : ∀ ps : List Pc, (∀ p ∈ ps, 1 ≤ p.2 ∧ p.2 ≤ 32 ∧ p.1 % 2 ^ lv p.2 = 0 ∧ p.1 < B.getD (lv p.2) 0) →
    sm (fun s => if ps.any (fun p => hits (2 ^ l) p s) then wt B l s else 0) S ≤ 32 * loads ps := by
  intro ps
  induction ps with
  | nil =>
    intro _
    have : sm (fun s => if ([] : List Pc).any (fun p => hits (2 ^ l) p s) then wt B l s else 0) S ≤ sm (fun _ => 0) S := sm_le S fun s _ => by simp
    refine Nat.le_trans this ?_
    have z : ∀ n, sm (fun _ => 0) n = 0 := fun n => by
      induction n with
      | zero => rfl
      | succ n ih => simp only [sm, ih]
    rw [z]; exact Nat.zero_le _
  | cons p ps ih =>
    intro h
    have h1 := ih (fun q hq => h q (List.mem_cons_of_mem _ hq))
    obtain ⟨h0, ha, hb, hc⟩ := h p (List.mem_cons_self)
    have h2 := piece_sum B l hl S p h0 ha hb hc
    have h3 : sm (fun s => if (p :: ps).any (fun p => hits (2 ^ l) p s) then wt B l s else 0) S ≤ sm (fun s => (if hits (2 ^ l) p s then wt B l s else 0) + (if ps.any (fun p => hits (2 ^ l) p s) then wt B l s else 0)) S := by
      refine sm_le S fun s _ => ?_
      simp only [List.any_cons]
      by_cases e1 : hits (2 ^ l) p s = true
      · simp only [e1, Bool.true_or, if_true]; omega
      · simp only [e1, Bool.false_or]; simp
    rw [sm_add] at h3
    have e : loads (p :: ps) = (p.2 + 2) + loads ps := by simp [loads]
    rw [e]
    omega

/-- There is a free slot for each piece that a quarter allows. -/
theorem has_room {n : Nat} (h0 : 64 ≤ n) (h1 : n ≤ 1000) {ps : List Pc} (ok : Ok n ps) {z : Nat} (z0 : 1 ≤ z) (z1 : z ≤ 32) (hq : loads ps + z + 2 ≤ n / 4) :
    ∃ s, s * 2 ^ lv z + 2 ^ lv z ≤ (bd n).getD (lv z) 0 ∧ ∀ p ∈ ps, hits (2 ^ lv z) p s = false := by
  have hl : lv z < 6 := by have := lv_le z; omega
  have hc := cst_le ⟨z, by omega⟩ z0
  simp only at hc
  obtain ⟨g1, g2, g3⟩ := good_at h0 h1 hl (by omega)
  have hs := hit_sum (bd n) (lv z) hl ((bd n).getD (lv z) 0 / 2 ^ lv z) ps (fun p hp => ⟨(ok.size p hp).1, (ok.size p hp).2, ok.al p hp, ok.bd p hp⟩)
  have key : ∃ s, s < (bd n).getD (lv z) 0 / 2 ^ lv z ∧ ps.any (fun p => hits (2 ^ lv z) p s) = false := by
    refine Classical.byContradiction fun hn => ?_
    have hall : ∀ s, s < (bd n).getD (lv z) 0 / 2 ^ lv z → ps.any (fun p => hits (2 ^ lv z) p s) = true := fun s hs => by
      cases e : ps.any (fun p => hits (2 ^ lv z) p s) with
      | true => rfl
      | false => exact absurd ⟨s, hs, e⟩ hn
    have h3 : sm (wt (bd n) (lv z)) ((bd n).getD (lv z) 0 / 2 ^ lv z) ≤ sm (fun s => if ps.any (fun p => hits (2 ^ lv z) p s) then wt (bd n) (lv z) s else 0) ((bd n).getD (lv z) 0 / 2 ^ lv z) := sm_le _ fun s hs => by
      rw [if_pos (hall s hs)]; exact Nat.le_refl _
    omega
  obtain ⟨s, hs1, hs2⟩ := key
  refine ⟨s, ?_, ?_⟩
  · have h4 : (s + 1) * 2 ^ lv z ≤ (bd n).getD (lv z) 0 / 2 ^ lv z * 2 ^ lv z := Nat.mul_le_mul_right _ hs1
    have h5 := Nat.div_mul_le_self ((bd n).getD (lv z) 0) (2 ^ lv z)
    rw [Nat.succ_mul] at h4
    omega
  · intro p hp
    have := List.any_eq_false.1 hs2 p hp
    simpa using this

end Go.Proofs.YtagnkdeeiligcaaDoor
