/-
  Two hashes that are alike are told to be alike; a row of slices that grows. No condition.
-/
import Derived.Test.YtgempifedhiknaaGreatDoorHex
import Derived.ChangeKeysEq
namespace Go.Proofs.YtgempifedhiknaaGreatDoor
set_option maxRecDepth 100000
open Go.RowKit Sha

theorem plain5 : Tryz.prog.plainKey 5 = true := by kernel_rfl
theorem cells5 : Tryz.prog.cellsOf 5 = 1 := by kernel_rfl
theorem eqItems_same (l : List UInt8) (d : Nat) (w : World) : ∀ is : List Nat, (∀ j, j ∈ is → j < l.length) → (Op.eqItems (d + 1) 5 1 (B8 l) (B8 l) is).run Tryz.prog w = .ok true w
  | [], _ => by simp [Op.eqItems]
  | j :: is, h => by
    have hp := run_part_plain (P := Tryz.prog) w plain5 (B8_get l j (h j (by simp)))
    have ih := eqItems_same l d w is (fun i hi => h i (by simp [hi]))
    simp only [Op.eqItems, Sem.run_bind, Nat.mul_one, hp, Result.andThen_ok, run_equalIn_int w d 5 .u8 .u8 _ _ Tryz.underlying5, beq_self_eq_true, Bool.not_true, Bool.false_eq_true, if_false, ih]
theorem equal_same (l : List UInt8) (hl : l.length = 32) (w : World) : (Op.equalIn 10000 24 (.agg (B8 l)) (.agg (B8 l))).run Tryz.prog w = .ok true w := by
  obtain ⟨i0, hi0, _⟩ := info_parts info5
  have := run_equalIn_array (P := Tryz.prog) w 9999 (B8 l) (B8 l) Tryz.underlying24 hi0
  rw [cells5, eqItems_same l 9998 w _ (fun j hj => by rw [hl]; simpa using hj)] at this
  exact this
theorem guard26 : Tryz.prog.eqGuardType Tryz.prog.depth 24 = false := by kernel_rfl
end Go.Proofs.YtgempifedhiknaaGreatDoor
