/-
  The program is awake.
-/
import Derived.Test.YthndjlcibiaoiaaRn
namespace Go.Proofs.Ythndjlcibiaoiaa
open Go.RowKit
set_option linter.unusedVariables false

/-- Whatever the traces are. -/
def AnyT : Trc → Prop := fun _ => True

theorem anyR (c f : Nat) : Rd AnyT c f := fun _ _ _ _ => trivial
theorem anyW (c f : Nat) : Wr AnyT c f := fun _ _ _ _ _ => trivial

theorem fresh_traces (n c d : Nat) : (fresh n c).traces.getD d [] = [] := by
  simp only [fresh, List.getD, List.getElem?_replicate]
  split <;> rfl

theorem fresh_few (n c : Nat) (N : Nat) : ∀ d, ((fresh n c).traces.getD d []).length ≤ N := fun d => by rw [fresh_traces]; exact Nat.zero_le _

theorem fresh_len (n c : Nat) : (fresh n c).words.length = n ∧ (fresh n c).traces.length = c := by simp [fresh]

/-- New, of an arena that was just made. -/
theorem f_new {I : Trc → Prop} {S : List (Nat × Obj)} {w0 w : World} {b L k : Nat} (h : Hs S w0 w b (fresh L k)) (f n : Nat) (x y : Int) (hx : x = (f : Int)) (hy : y = (n : Int)) (hn : 128 ≤ n) (hf : f + n ≤ L) (hI : ∀ q, q < 20 → ∀ t, I t → I (tput t 0 (((f + q : Nat) : Int), true))) (hI0 : I fun _ => []) :
    Calls Try.prog 8 #[.pointer (some ⟨b, 0, none⟩), .int .i64 x, .int .i64 y] w fun e w' => ∃ g, e = .returned (.tuple #[.pointer (some ⟨g, 0, none⟩), .int .i64 0]) ∧ Rb I ((g, box b f) :: S) w0 w' b g f k L 20 (wd fun _ => 0) := by
  have := r_new (I := I) (N := 0) h f n x y hx hy k L (fresh_len L k).2 (fresh_len L k).1 hn hf (fresh_few L k 0) (by omega) hI (by rw [show (fun c => (fresh L k).traces.getD c []) = (fun _ => []) from funext (fresh_traces L k)]; exact hI0)
  exact this

theorem awake_pages : pg (cutV (upd (fun _ => 0) 5 9) 5 16) 16 = [] := by decide +kernel

theorem Od.len {u : Value} {xs : List Int} {D : List (Nat × Obj)} (h : Od u xs D) : ∃ a c, u = .slice a xs.length c := by
  rcases h with ⟨rfl, rfl, -⟩ | ⟨g, cap, cur, rfl, -⟩
  · exact ⟨_, _, rfl⟩
  · exact ⟨_, _, rfl⟩

set_option maxRecDepth 100000 in
set_option maxHeartbeats 4000000 in
theorem awake_any (w : World) : Calls Try.prog 14 #[] w fun e w' => e = .returned (.bool true) ∧ Kept [] w w' := by
  go_enter Try.func14, Try.ntmps14
  go_wp2_with fail
  refine (h_new w 200 2 (by omega) (by omega) (by omega) (by omega)).mono ?_
  rintro e w1 ⟨b, rfl, hm⟩
  have H1 : Hid (_) := hm
  clear hm
  go_wp2_with fail
  refine (f_new (I := AnyT) (k := 2) (L := 200) H1.out 0 200 _ _ rfl rfl (by omega) (by omega) (fun _ _ _ _ => trivial) trivial).mono ?_
  rintro e w2 ⟨g, rfl, h2⟩
  have H2 : Hid (_) := h2
  clear h2 H1
  go_wp2_with fail
  refine (r_set (I1 := AnyT) (I2 := AnyT) H2.out 0 5 9 (by omega) (by omega) (by omega) (fun _ _ => trivial) (fun _ _ => trivial) (by omega)).mono ?_
  rintro e w3 ⟨rfl, h3⟩
  have H3 : Hid (_) := h3
  clear h3 H2
  go_wp2_with fail
  refine (r_get (I1 := AnyT) (I2 := AnyT) H3.out 1 5 (by omega) (by omega) (fun _ _ => trivial) (fun _ _ => trivial) (by omega)).mono ?_
  rintro e w4 ⟨rfl, h4⟩
  rw [show upd (fun _ => 0) 5 9 5 = 9 from rfl]
  have H4 : Hid (_) := h4
  clear h4 H3
  go_wp2_with fail
  refine (r_get (I1 := AnyT) (I2 := AnyT) H4.out 0 15 (by omega) (by omega) (fun _ _ => trivial) (fun _ _ => trivial) (by omega)).mono ?_
  rintro e w5 ⟨rfl, h5⟩
  rw [show upd (fun _ => 0) 5 9 15 = 0 from rfl]
  have H5 : Hid (_) := h5
  clear h5 H4
  go_wp2_with fail
  refine (r_get_page H5.out 0 16 (by omega) (by omega)).mono ?_
  rintro e w6 ⟨rfl, rfl⟩
  go_wp2_with fail
  refine (r_set_form H5.out 2 0 1 (by omega)).mono ?_
  rintro e w6 ⟨rfl, rfl⟩
  go_wp2_with fail
  refine (r_cut H5.out 0 5 (by omega) (by omega) (anyR _ _) (anyW _ _) (by omega)).mono ?_
  rintro e w7 ⟨rfl, h7⟩
  have H7 : Hid (_) := h7
  clear h7 H5
  go_wp2_with (first
    | (go_at_call 9; refine (num _ _).mono ?_; rintro e w' ⟨rfl, rfl⟩))
  refine (r_pages H7.out 0 (by omega) (anyR _ _) (by omega)).mono ?_
  rintro e w8 ⟨u, D, rfl, hu, h8, -⟩
  obtain ⟨ua, uc, rfl⟩ := hu.len
  rw [awake_pages]
  have H8 : Hid (_) := h8.old
  clear h8 hu H7
  go_wp2_with fail
  go_ret
  exact ⟨rfl, H8.out⟩

end Go.Proofs.Ythndjlcibiaoiaa
