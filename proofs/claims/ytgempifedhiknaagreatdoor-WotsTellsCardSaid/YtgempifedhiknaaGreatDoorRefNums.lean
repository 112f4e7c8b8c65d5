/-
  The document's own numbers: two slices in new memory.
-/
import Derived.Test.YtgempifedhiknaaGreatDoorRefRow
namespace Go.Proofs.YtgempifedhiknaaGreatDoor
set_option maxRecDepth 100000
open Go.RowKit Sha

theorem lies_nums {w : World} {g : Nat} {l : List (BitVec 32)} {t : TypeId} (h : Lies w g (B32 l) t) : Nums w g 0 l := fun j hj => by
  rw [Nat.zero_add]; exact h.cell j (B32_get l j hj)
set_option maxRecDepth 100000 in
set_option maxHeartbeats 1000000 in
theorem numbers_any (w : World) : Calls Tryz.prog 66 #[] w fun e w' =>
    e = .returned (.tuple #[.slice (some ⟨w.heap.size, 0, none⟩) 8 8, .slice (some ⟨w.heap.size + 1, 0, none⟩) 64 64]) ∧
      w' = (w.alloc (.cells (B32 Sha.start.list) 88)).alloc (.cells (B32 cubes) 88) := by
  go_enter Tryz.func66, Tryz.ntmps66
  go_wp2_with fail
  go_ret2
  exact ⟨rfl, rfl⟩
end Go.Proofs.YtgempifedhiknaaGreatDoor
