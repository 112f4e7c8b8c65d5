/-
  The marks behind what is lent: of the first list, the first twelve.
-/
import Derived.Test.YtccfdobogbiomaaDoorLeaf
import Derived.Lib.Hide
namespace Go.Proofs.YtccfdobogbiomaaDoor
open Go.RowKit

def mark8 (i : Nat) : UInt8 := UInt8.ofNat ((8000024 + i) * 11400714819323198485 % 18446744073709551616 / 72057594037927936)
set_option maxRecDepth 100000 in
theorem mark_0 (w : World) : Calls Tryd.prog 31 #[.int .i64 1, .int .i64 0] w fun e w' => e = .returned (.int .u8 (mark8 0).toNat) ∧ w = w' := by
  go_enter Tryd.func31, Tryd.ntmps31
  go_wp2
  go_ret
  exact ⟨rfl, rfl⟩
set_option maxRecDepth 100000 in
theorem mark_1 (w : World) : Calls Tryd.prog 31 #[.int .i64 1, .int .i64 1] w fun e w' => e = .returned (.int .u8 (mark8 1).toNat) ∧ w = w' := by
  go_enter Tryd.func31, Tryd.ntmps31
  go_wp2
  go_ret
  exact ⟨rfl, rfl⟩
set_option maxRecDepth 100000 in
theorem mark_2 (w : World) : Calls Tryd.prog 31 #[.int .i64 1, .int .i64 2] w fun e w' => e = .returned (.int .u8 (mark8 2).toNat) ∧ w = w' := by
  go_enter Tryd.func31, Tryd.ntmps31
  go_wp2
  go_ret
  exact ⟨rfl, rfl⟩
set_option maxRecDepth 100000 in
theorem mark_3 (w : World) : Calls Tryd.prog 31 #[.int .i64 1, .int .i64 3] w fun e w' => e = .returned (.int .u8 (mark8 3).toNat) ∧ w = w' := by
  go_enter Tryd.func31, Tryd.ntmps31
  go_wp2
  go_ret
  exact ⟨rfl, rfl⟩
set_option maxRecDepth 100000 in
theorem mark_4 (w : World) : Calls Tryd.prog 31 #[.int .i64 1, .int .i64 4] w fun e w' => e = .returned (.int .u8 (mark8 4).toNat) ∧ w = w' := by
  go_enter Tryd.func31, Tryd.ntmps31
  go_wp2
  go_ret
  exact ⟨rfl, rfl⟩
set_option maxRecDepth 100000 in
theorem mark_5 (w : World) : Calls Tryd.prog 31 #[.int .i64 1, .int .i64 5] w fun e w' => e = .returned (.int .u8 (mark8 5).toNat) ∧ w = w' := by
  go_enter Tryd.func31, Tryd.ntmps31
  go_wp2
  go_ret
  exact ⟨rfl, rfl⟩
set_option maxRecDepth 100000 in
theorem mark_6 (w : World) : Calls Tryd.prog 31 #[.int .i64 1, .int .i64 6] w fun e w' => e = .returned (.int .u8 (mark8 6).toNat) ∧ w = w' := by
  go_enter Tryd.func31, Tryd.ntmps31
  go_wp2
  go_ret
  exact ⟨rfl, rfl⟩
set_option maxRecDepth 100000 in
theorem mark_7 (w : World) : Calls Tryd.prog 31 #[.int .i64 1, .int .i64 7] w fun e w' => e = .returned (.int .u8 (mark8 7).toNat) ∧ w = w' := by
  go_enter Tryd.func31, Tryd.ntmps31
  go_wp2
  go_ret
  exact ⟨rfl, rfl⟩
set_option maxRecDepth 100000 in
theorem mark_8 (w : World) : Calls Tryd.prog 31 #[.int .i64 1, .int .i64 8] w fun e w' => e = .returned (.int .u8 (mark8 8).toNat) ∧ w = w' := by
  go_enter Tryd.func31, Tryd.ntmps31
  go_wp2
  go_ret
  exact ⟨rfl, rfl⟩
set_option maxRecDepth 100000 in
theorem mark_9 (w : World) : Calls Tryd.prog 31 #[.int .i64 1, .int .i64 9] w fun e w' => e = .returned (.int .u8 (mark8 9).toNat) ∧ w = w' := by
  go_enter Tryd.func31, Tryd.ntmps31
  go_wp2
  go_ret
  exact ⟨rfl, rfl⟩
set_option maxRecDepth 100000 in
theorem mark_10 (w : World) : Calls Tryd.prog 31 #[.int .i64 1, .int .i64 10] w fun e w' => e = .returned (.int .u8 (mark8 10).toNat) ∧ w = w' := by
  go_enter Tryd.func31, Tryd.ntmps31
  go_wp2
  go_ret
  exact ⟨rfl, rfl⟩
set_option maxRecDepth 100000 in
theorem mark_11 (w : World) : Calls Tryd.prog 31 #[.int .i64 1, .int .i64 11] w fun e w' => e = .returned (.int .u8 (mark8 11).toNat) ∧ w = w' := by
  go_enter Tryd.func31, Tryd.ntmps31
  go_wp2
  go_ret
  exact ⟨rfl, rfl⟩
theorem mark_any (i : Nat) (h : i < 12) (w : World) : Calls Tryd.prog 31 #[.int .i64 1, .int .i64 i] w fun e w' => e = .returned (.int .u8 (mark8 i).toNat) ∧ w = w' := by
  match i, h with
  | 0, _ => exact mark_0 w
  | 1, _ => exact mark_1 w
  | 2, _ => exact mark_2 w
  | 3, _ => exact mark_3 w
  | 4, _ => exact mark_4 w
  | 5, _ => exact mark_5 w
  | 6, _ => exact mark_6 w
  | 7, _ => exact mark_7 w
  | 8, _ => exact mark_8 w
  | 9, _ => exact mark_9 w
  | 10, _ => exact mark_10 w
  | 11, _ => exact mark_11 w
end Go.Proofs.YtccfdobogbiomaaDoor
