/-
  Plain facts on states: the counts and the number of words under each call.
-/
import Derived.Test.YtpaefllhngbimaaUser
namespace Go.Proofs.Ytpaefllhngbimaa
set_option maxRecDepth 10000

section
variable (M : Pm)

theorem light_steps (k : Int) : (M.light k).steps = M.steps := by unfold Pm.light; split <;> rfl
theorem light_stores (k : Int) : (M.light k).stores = M.stores := by unfold Pm.light; split <;> rfl
theorem light_seen (k : Int) : (M.light k).seen = M.seen := by unfold Pm.light; split <;> rfl
theorem light_lasts (k : Int) : (M.light k).lasts = M.lasts := by unfold Pm.light; split <;> rfl
theorem burn_steps : M.burn.steps = M.steps := by unfold Pm.burn; split <;> simp [light_steps]
theorem burn_stores : M.burn.stores = M.stores := by unfold Pm.burn; split <;> simp [light_stores]
theorem burn_seen : M.burn.seen = M.seen := by unfold Pm.burn; split <;> simp [light_seen]
theorem burn_lasts : M.burn.lasts = M.lasts := by unfold Pm.burn; split <;> simp [light_lasts]
theorem hold_steps (l : Nat) : (M.hold l).steps = M.steps := by unfold Pm.hold; split <;> rfl
theorem hold_stores (l : Nat) : (M.hold l).stores = M.stores := by unfold Pm.hold; split <;> rfl
theorem hold_lasts (l : Nat) : (M.hold l).lasts = M.lasts := by unfold Pm.hold; split <;> rfl
theorem hold_fuse (l : Nat) : (M.hold l).fuse = M.fuse := by unfold Pm.hold; split <;> rfl
theorem put_steps (pw : Bool) (k : Nat) (v : Int) : (M.put pw k v).steps = M.steps := by cases pw <;> simp [Pm.put, hold_steps]
theorem put_stores (pw : Bool) (k : Nat) (v : Int) : (M.put pw k v).stores = M.stores := by cases pw <;> simp [Pm.put, hold_stores]
theorem put_seen (pw : Bool) (k : Nat) (v : Int) : (M.put pw k v).seen = M.seen.set k v := by cases pw <;> simp [Pm.put, hold_seen]
theorem put_lasts (pw : Bool) (k : Nat) (v : Int) : (M.put pw k v).lasts = M.lasts := by cases pw <;> simp [Pm.put, hold_lasts]
theorem store_steps (k : Nat) (v : Int) : (M.store k v).steps = M.steps + 1 := by simp [Pm.store, burn_steps, put_steps]
theorem store_stores (k : Nat) (v : Int) : (M.store k v).stores = M.stores + 1 := by simp [Pm.store, burn_stores, put_stores]
theorem store_seen (k : Nat) (v : Int) : (M.store k v).seen = M.seen.set k v := by simp [Pm.store, burn_seen, put_seen]
theorem store_lasts (k : Nat) (v : Int) : (M.store k v).lasts = M.lasts := by simp [Pm.store, burn_lasts, put_lasts]
theorem send_steps (pw : Bool) (l : Nat) : (M.send pw l).steps = M.steps := by cases pw <;> simp [Pm.send]
theorem send_stores (pw : Bool) (l : Nat) : (M.send pw l).stores = M.stores := by cases pw <;> simp [Pm.send]
theorem send_seen (pw : Bool) (l : Nat) : (M.send pw l).seen = M.seen := by cases pw <;> simp [Pm.send]
theorem send_lasts (pw : Bool) (l : Nat) : (M.send pw l).lasts = M.lasts := by cases pw <;> simp [Pm.send]
theorem flush_steps (l : Nat) : (M.flush l).steps = M.steps + 1 := by simp [Pm.flush, burn_steps, send_steps]
theorem flush_stores (l : Nat) : (M.flush l).stores = M.stores := by simp [Pm.flush, burn_stores, send_stores]
theorem flush_seen (l : Nat) : (M.flush l).seen = M.seen := by simp [Pm.flush, burn_seen, send_seen]
theorem flush_lasts (l : Nat) : (M.flush l).lasts = M.lasts := by simp [Pm.flush, burn_lasts, send_lasts]
theorem fence_steps : M.fence.steps = M.steps + 1 := by
  unfold Pm.fence; rw [burn_steps]; unfold Pm.fenceIf; split <;> rfl
theorem fence_stores : M.fence.stores = M.stores := by
  unfold Pm.fence; rw [burn_stores]; unfold Pm.fenceIf; split <;> rfl
theorem fence_seen : M.fence.seen = M.seen := by
  unfold Pm.fence; rw [burn_seen]; unfold Pm.fenceIf; split <;> rfl
theorem setFuse_steps (k : Int) : (M.setFuse k).steps = M.steps := by unfold Pm.setFuse; split <;> simp [light_steps]
theorem setFuse_stores (k : Int) : (M.setFuse k).stores = M.stores := by unfold Pm.setFuse; split <;> simp [light_stores]
theorem setFuse_seen (k : Int) : (M.setFuse k).seen = M.seen := by unfold Pm.setFuse; split <;> simp [light_seen]

end

end Go.Proofs.Ytpaefllhngbimaa
