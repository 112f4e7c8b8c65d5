/-
  LentHashes: a copy of any hashes (at most 40), twelve marks behind them within its room.
-/
import Derived.Test.YtccfdobogbiomaaDoorRefRoot
namespace Go.Proofs.YtccfdobogbiomaaDoor
open Go.RowKit Sha

def markB (i : Nat) : UInt8 := UInt8.ofNat (8000024 + i)
def markH (b : UInt8) : List UInt8 := b :: List.replicate 31 0
theorem markH_length (b : UInt8) : (markH b).length = 32 := rfl
theorem built27 (b : UInt8) : Tryd.prog.built 27 [(0, .int .u8 b.toNat)] = some (B8 (markH b)) := by kernel_rfl
theorem wpList_build_H {w : World} {ops : Array Oper} {rest : List Oper} {o : Oper} {a : Act} {Q : Exit → Act → World → Prop} (hg : o.guard = none) (parts : Array (Nat × Operand)) (ho : o.op = .build 27 parts) (b : UInt8)
    (hp : (parts.map fun (i, x) => (i, a.eval x)).toList = [(0, .int .u8 b.toNat)])
    (h : wpList Tryd.prog ops Q rest (a.put o.dst (.agg (B8 (markH b)))) w) : wpList Tryd.prog ops Q (o :: rest) a w := by
  refine wpList_build hg 27 parts ho (by rw [hp, built27]; rfl) ?_
  rw [hp, built27]
  exact h
theorem mark35_0 (w : World) : Calls Tryd.prog 35 #[.int .i64 1, .int .i64 0] w fun e w' => e = .returned (.int .i64 8000024) ∧ w = w' := by
  go_enter Tryd.func35, Tryd.ntmps35
  go_wp2
  go_ret
  exact ⟨rfl, rfl⟩
set_option maxRecDepth 100000 in
set_option maxHeartbeats 1000000 in
theorem markhash_0 (w : World) : Calls Tryd.prog 28 #[.int .i64 1, .int .i64 0] w fun e w' => e = .returned (.agg (B8 (markH (markB 0)))) ∧ Below w.heap.size w w' := by
  go_enter Tryd.func28, Tryd.ntmps28
  go_wp2_with (first | (go_at_call 35; refine (mark35_0 _).mono ?_; rintro e w' ⟨rfl, rfl⟩) | (refine wpList_build_H rfl _ rfl (markB 0) rfl ?_) | (refine wpList_store_row rfl 27 _ _ rfl w.heap.size (B8 (markH (markB 0))) rfl rfl 27 z32 (Lies.new w z32 27) info27 rfl (B8_one _) ?_))
  refine bodyPost_ret (v := .agg (B8 (markH (markB 0)))) (results_cell_row (p := 4) (ty := 27) (by kernel_rfl) _ _ w.heap.size 27 (B8 (markH (markB 0))) (0, 0) _ rfl ((Lies.new w z32 27).setRow _) Tryd.underlying27 rfl info27) rfl ⟨rfl, ?_⟩
  exact below_setRow ((Below.refl _ _).alloc (Nat.le_refl _) _) _ _ (Nat.le_refl _)
theorem mark35_1 (w : World) : Calls Tryd.prog 35 #[.int .i64 1, .int .i64 1] w fun e w' => e = .returned (.int .i64 8000025) ∧ w = w' := by
  go_enter Tryd.func35, Tryd.ntmps35
  go_wp2
  go_ret
  exact ⟨rfl, rfl⟩
set_option maxRecDepth 100000 in
set_option maxHeartbeats 1000000 in
theorem markhash_1 (w : World) : Calls Tryd.prog 28 #[.int .i64 1, .int .i64 1] w fun e w' => e = .returned (.agg (B8 (markH (markB 1)))) ∧ Below w.heap.size w w' := by
  go_enter Tryd.func28, Tryd.ntmps28
  go_wp2_with (first | (go_at_call 35; refine (mark35_1 _).mono ?_; rintro e w' ⟨rfl, rfl⟩) | (refine wpList_build_H rfl _ rfl (markB 1) rfl ?_) | (refine wpList_store_row rfl 27 _ _ rfl w.heap.size (B8 (markH (markB 1))) rfl rfl 27 z32 (Lies.new w z32 27) info27 rfl (B8_one _) ?_))
  refine bodyPost_ret (v := .agg (B8 (markH (markB 1)))) (results_cell_row (p := 4) (ty := 27) (by kernel_rfl) _ _ w.heap.size 27 (B8 (markH (markB 1))) (0, 0) _ rfl ((Lies.new w z32 27).setRow _) Tryd.underlying27 rfl info27) rfl ⟨rfl, ?_⟩
  exact below_setRow ((Below.refl _ _).alloc (Nat.le_refl _) _) _ _ (Nat.le_refl _)
theorem mark35_2 (w : World) : Calls Tryd.prog 35 #[.int .i64 1, .int .i64 2] w fun e w' => e = .returned (.int .i64 8000026) ∧ w = w' := by
  go_enter Tryd.func35, Tryd.ntmps35
  go_wp2
  go_ret
  exact ⟨rfl, rfl⟩
set_option maxRecDepth 100000 in
set_option maxHeartbeats 1000000 in
theorem markhash_2 (w : World) : Calls Tryd.prog 28 #[.int .i64 1, .int .i64 2] w fun e w' => e = .returned (.agg (B8 (markH (markB 2)))) ∧ Below w.heap.size w w' := by
  go_enter Tryd.func28, Tryd.ntmps28
  go_wp2_with (first | (go_at_call 35; refine (mark35_2 _).mono ?_; rintro e w' ⟨rfl, rfl⟩) | (refine wpList_build_H rfl _ rfl (markB 2) rfl ?_) | (refine wpList_store_row rfl 27 _ _ rfl w.heap.size (B8 (markH (markB 2))) rfl rfl 27 z32 (Lies.new w z32 27) info27 rfl (B8_one _) ?_))
  refine bodyPost_ret (v := .agg (B8 (markH (markB 2)))) (results_cell_row (p := 4) (ty := 27) (by kernel_rfl) _ _ w.heap.size 27 (B8 (markH (markB 2))) (0, 0) _ rfl ((Lies.new w z32 27).setRow _) Tryd.underlying27 rfl info27) rfl ⟨rfl, ?_⟩
  exact below_setRow ((Below.refl _ _).alloc (Nat.le_refl _) _) _ _ (Nat.le_refl _)
theorem mark35_3 (w : World) : Calls Tryd.prog 35 #[.int .i64 1, .int .i64 3] w fun e w' => e = .returned (.int .i64 8000027) ∧ w = w' := by
  go_enter Tryd.func35, Tryd.ntmps35
  go_wp2
  go_ret
  exact ⟨rfl, rfl⟩
set_option maxRecDepth 100000 in
set_option maxHeartbeats 1000000 in
theorem markhash_3 (w : World) : Calls Tryd.prog 28 #[.int .i64 1, .int .i64 3] w fun e w' => e = .returned (.agg (B8 (markH (markB 3)))) ∧ Below w.heap.size w w' := by
  go_enter Tryd.func28, Tryd.ntmps28
  go_wp2_with (first | (go_at_call 35; refine (mark35_3 _).mono ?_; rintro e w' ⟨rfl, rfl⟩) | (refine wpList_build_H rfl _ rfl (markB 3) rfl ?_) | (refine wpList_store_row rfl 27 _ _ rfl w.heap.size (B8 (markH (markB 3))) rfl rfl 27 z32 (Lies.new w z32 27) info27 rfl (B8_one _) ?_))
  refine bodyPost_ret (v := .agg (B8 (markH (markB 3)))) (results_cell_row (p := 4) (ty := 27) (by kernel_rfl) _ _ w.heap.size 27 (B8 (markH (markB 3))) (0, 0) _ rfl ((Lies.new w z32 27).setRow _) Tryd.underlying27 rfl info27) rfl ⟨rfl, ?_⟩
  exact below_setRow ((Below.refl _ _).alloc (Nat.le_refl _) _) _ _ (Nat.le_refl _)
theorem mark35_4 (w : World) : Calls Tryd.prog 35 #[.int .i64 1, .int .i64 4] w fun e w' => e = .returned (.int .i64 8000028) ∧ w = w' := by
  go_enter Tryd.func35, Tryd.ntmps35
  go_wp2
  go_ret
  exact ⟨rfl, rfl⟩
set_option maxRecDepth 100000 in
set_option maxHeartbeats 1000000 in
theorem markhash_4 (w : World) : Calls Tryd.prog 28 #[.int .i64 1, .int .i64 4] w fun e w' => e = .returned (.agg (B8 (markH (markB 4)))) ∧ Below w.heap.size w w' := by
  go_enter Tryd.func28, Tryd.ntmps28
  go_wp2_with (first | (go_at_call 35; refine (mark35_4 _).mono ?_; rintro e w' ⟨rfl, rfl⟩) | (refine wpList_build_H rfl _ rfl (markB 4) rfl ?_) | (refine wpList_store_row rfl 27 _ _ rfl w.heap.size (B8 (markH (markB 4))) rfl rfl 27 z32 (Lies.new w z32 27) info27 rfl (B8_one _) ?_))
  refine bodyPost_ret (v := .agg (B8 (markH (markB 4)))) (results_cell_row (p := 4) (ty := 27) (by kernel_rfl) _ _ w.heap.size 27 (B8 (markH (markB 4))) (0, 0) _ rfl ((Lies.new w z32 27).setRow _) Tryd.underlying27 rfl info27) rfl ⟨rfl, ?_⟩
  exact below_setRow ((Below.refl _ _).alloc (Nat.le_refl _) _) _ _ (Nat.le_refl _)
theorem mark35_5 (w : World) : Calls Tryd.prog 35 #[.int .i64 1, .int .i64 5] w fun e w' => e = .returned (.int .i64 8000029) ∧ w = w' := by
  go_enter Tryd.func35, Tryd.ntmps35
  go_wp2
  go_ret
  exact ⟨rfl, rfl⟩
set_option maxRecDepth 100000 in
set_option maxHeartbeats 1000000 in
theorem markhash_5 (w : World) : Calls Tryd.prog 28 #[.int .i64 1, .int .i64 5] w fun e w' => e = .returned (.agg (B8 (markH (markB 5)))) ∧ Below w.heap.size w w' := by
  go_enter Tryd.func28, Tryd.ntmps28
  go_wp2_with (first | (go_at_call 35; refine (mark35_5 _).mono ?_; rintro e w' ⟨rfl, rfl⟩) | (refine wpList_build_H rfl _ rfl (markB 5) rfl ?_) | (refine wpList_store_row rfl 27 _ _ rfl w.heap.size (B8 (markH (markB 5))) rfl rfl 27 z32 (Lies.new w z32 27) info27 rfl (B8_one _) ?_))
  refine bodyPost_ret (v := .agg (B8 (markH (markB 5)))) (results_cell_row (p := 4) (ty := 27) (by kernel_rfl) _ _ w.heap.size 27 (B8 (markH (markB 5))) (0, 0) _ rfl ((Lies.new w z32 27).setRow _) Tryd.underlying27 rfl info27) rfl ⟨rfl, ?_⟩
  exact below_setRow ((Below.refl _ _).alloc (Nat.le_refl _) _) _ _ (Nat.le_refl _)
theorem mark35_6 (w : World) : Calls Tryd.prog 35 #[.int .i64 1, .int .i64 6] w fun e w' => e = .returned (.int .i64 8000030) ∧ w = w' := by
  go_enter Tryd.func35, Tryd.ntmps35
  go_wp2
  go_ret
  exact ⟨rfl, rfl⟩
set_option maxRecDepth 100000 in
set_option maxHeartbeats 1000000 in
theorem markhash_6 (w : World) : Calls Tryd.prog 28 #[.int .i64 1, .int .i64 6] w fun e w' => e = .returned (.agg (B8 (markH (markB 6)))) ∧ Below w.heap.size w w' := by
  go_enter Tryd.func28, Tryd.ntmps28
  go_wp2_with (first | (go_at_call 35; refine (mark35_6 _).mono ?_; rintro e w' ⟨rfl, rfl⟩) | (refine wpList_build_H rfl _ rfl (markB 6) rfl ?_) | (refine wpList_store_row rfl 27 _ _ rfl w.heap.size (B8 (markH (markB 6))) rfl rfl 27 z32 (Lies.new w z32 27) info27 rfl (B8_one _) ?_))
  refine bodyPost_ret (v := .agg (B8 (markH (markB 6)))) (results_cell_row (p := 4) (ty := 27) (by kernel_rfl) _ _ w.heap.size 27 (B8 (markH (markB 6))) (0, 0) _ rfl ((Lies.new w z32 27).setRow _) Tryd.underlying27 rfl info27) rfl ⟨rfl, ?_⟩
  exact below_setRow ((Below.refl _ _).alloc (Nat.le_refl _) _) _ _ (Nat.le_refl _)
theorem mark35_7 (w : World) : Calls Tryd.prog 35 #[.int .i64 1, .int .i64 7] w fun e w' => e = .returned (.int .i64 8000031) ∧ w = w' := by
  go_enter Tryd.func35, Tryd.ntmps35
  go_wp2
  go_ret
  exact ⟨rfl, rfl⟩
set_option maxRecDepth 100000 in
set_option maxHeartbeats 1000000 in
theorem markhash_7 (w : World) : Calls Tryd.prog 28 #[.int .i64 1, .int .i64 7] w fun e w' => e = .returned (.agg (B8 (markH (markB 7)))) ∧ Below w.heap.size w w' := by
  go_enter Tryd.func28, Tryd.ntmps28
  go_wp2_with (first | (go_at_call 35; refine (mark35_7 _).mono ?_; rintro e w' ⟨rfl, rfl⟩) | (refine wpList_build_H rfl _ rfl (markB 7) rfl ?_) | (refine wpList_store_row rfl 27 _ _ rfl w.heap.size (B8 (markH (markB 7))) rfl rfl 27 z32 (Lies.new w z32 27) info27 rfl (B8_one _) ?_))
  refine bodyPost_ret (v := .agg (B8 (markH (markB 7)))) (results_cell_row (p := 4) (ty := 27) (by kernel_rfl) _ _ w.heap.size 27 (B8 (markH (markB 7))) (0, 0) _ rfl ((Lies.new w z32 27).setRow _) Tryd.underlying27 rfl info27) rfl ⟨rfl, ?_⟩
  exact below_setRow ((Below.refl _ _).alloc (Nat.le_refl _) _) _ _ (Nat.le_refl _)
theorem mark35_8 (w : World) : Calls Tryd.prog 35 #[.int .i64 1, .int .i64 8] w fun e w' => e = .returned (.int .i64 8000032) ∧ w = w' := by
  go_enter Tryd.func35, Tryd.ntmps35
  go_wp2
  go_ret
  exact ⟨rfl, rfl⟩
set_option maxRecDepth 100000 in
set_option maxHeartbeats 1000000 in
theorem markhash_8 (w : World) : Calls Tryd.prog 28 #[.int .i64 1, .int .i64 8] w fun e w' => e = .returned (.agg (B8 (markH (markB 8)))) ∧ Below w.heap.size w w' := by
  go_enter Tryd.func28, Tryd.ntmps28
  go_wp2_with (first | (go_at_call 35; refine (mark35_8 _).mono ?_; rintro e w' ⟨rfl, rfl⟩) | (refine wpList_build_H rfl _ rfl (markB 8) rfl ?_) | (refine wpList_store_row rfl 27 _ _ rfl w.heap.size (B8 (markH (markB 8))) rfl rfl 27 z32 (Lies.new w z32 27) info27 rfl (B8_one _) ?_))
  refine bodyPost_ret (v := .agg (B8 (markH (markB 8)))) (results_cell_row (p := 4) (ty := 27) (by kernel_rfl) _ _ w.heap.size 27 (B8 (markH (markB 8))) (0, 0) _ rfl ((Lies.new w z32 27).setRow _) Tryd.underlying27 rfl info27) rfl ⟨rfl, ?_⟩
  exact below_setRow ((Below.refl _ _).alloc (Nat.le_refl _) _) _ _ (Nat.le_refl _)
theorem mark35_9 (w : World) : Calls Tryd.prog 35 #[.int .i64 1, .int .i64 9] w fun e w' => e = .returned (.int .i64 8000033) ∧ w = w' := by
  go_enter Tryd.func35, Tryd.ntmps35
  go_wp2
  go_ret
  exact ⟨rfl, rfl⟩
set_option maxRecDepth 100000 in
set_option maxHeartbeats 1000000 in
theorem markhash_9 (w : World) : Calls Tryd.prog 28 #[.int .i64 1, .int .i64 9] w fun e w' => e = .returned (.agg (B8 (markH (markB 9)))) ∧ Below w.heap.size w w' := by
  go_enter Tryd.func28, Tryd.ntmps28
  go_wp2_with (first | (go_at_call 35; refine (mark35_9 _).mono ?_; rintro e w' ⟨rfl, rfl⟩) | (refine wpList_build_H rfl _ rfl (markB 9) rfl ?_) | (refine wpList_store_row rfl 27 _ _ rfl w.heap.size (B8 (markH (markB 9))) rfl rfl 27 z32 (Lies.new w z32 27) info27 rfl (B8_one _) ?_))
  refine bodyPost_ret (v := .agg (B8 (markH (markB 9)))) (results_cell_row (p := 4) (ty := 27) (by kernel_rfl) _ _ w.heap.size 27 (B8 (markH (markB 9))) (0, 0) _ rfl ((Lies.new w z32 27).setRow _) Tryd.underlying27 rfl info27) rfl ⟨rfl, ?_⟩
  exact below_setRow ((Below.refl _ _).alloc (Nat.le_refl _) _) _ _ (Nat.le_refl _)
theorem mark35_10 (w : World) : Calls Tryd.prog 35 #[.int .i64 1, .int .i64 10] w fun e w' => e = .returned (.int .i64 8000034) ∧ w = w' := by
  go_enter Tryd.func35, Tryd.ntmps35
  go_wp2
  go_ret
  exact ⟨rfl, rfl⟩
set_option maxRecDepth 100000 in
set_option maxHeartbeats 1000000 in
theorem markhash_10 (w : World) : Calls Tryd.prog 28 #[.int .i64 1, .int .i64 10] w fun e w' => e = .returned (.agg (B8 (markH (markB 10)))) ∧ Below w.heap.size w w' := by
  go_enter Tryd.func28, Tryd.ntmps28
  go_wp2_with (first | (go_at_call 35; refine (mark35_10 _).mono ?_; rintro e w' ⟨rfl, rfl⟩) | (refine wpList_build_H rfl _ rfl (markB 10) rfl ?_) | (refine wpList_store_row rfl 27 _ _ rfl w.heap.size (B8 (markH (markB 10))) rfl rfl 27 z32 (Lies.new w z32 27) info27 rfl (B8_one _) ?_))
  refine bodyPost_ret (v := .agg (B8 (markH (markB 10)))) (results_cell_row (p := 4) (ty := 27) (by kernel_rfl) _ _ w.heap.size 27 (B8 (markH (markB 10))) (0, 0) _ rfl ((Lies.new w z32 27).setRow _) Tryd.underlying27 rfl info27) rfl ⟨rfl, ?_⟩
  exact below_setRow ((Below.refl _ _).alloc (Nat.le_refl _) _) _ _ (Nat.le_refl _)
theorem mark35_11 (w : World) : Calls Tryd.prog 35 #[.int .i64 1, .int .i64 11] w fun e w' => e = .returned (.int .i64 8000035) ∧ w = w' := by
  go_enter Tryd.func35, Tryd.ntmps35
  go_wp2
  go_ret
  exact ⟨rfl, rfl⟩
set_option maxRecDepth 100000 in
set_option maxHeartbeats 1000000 in
theorem markhash_11 (w : World) : Calls Tryd.prog 28 #[.int .i64 1, .int .i64 11] w fun e w' => e = .returned (.agg (B8 (markH (markB 11)))) ∧ Below w.heap.size w w' := by
  go_enter Tryd.func28, Tryd.ntmps28
  go_wp2_with (first | (go_at_call 35; refine (mark35_11 _).mono ?_; rintro e w' ⟨rfl, rfl⟩) | (refine wpList_build_H rfl _ rfl (markB 11) rfl ?_) | (refine wpList_store_row rfl 27 _ _ rfl w.heap.size (B8 (markH (markB 11))) rfl rfl 27 z32 (Lies.new w z32 27) info27 rfl (B8_one _) ?_))
  refine bodyPost_ret (v := .agg (B8 (markH (markB 11)))) (results_cell_row (p := 4) (ty := 27) (by kernel_rfl) _ _ w.heap.size 27 (B8 (markH (markB 11))) (0, 0) _ rfl ((Lies.new w z32 27).setRow _) Tryd.underlying27 rfl info27) rfl ⟨rfl, ?_⟩
  exact below_setRow ((Below.refl _ _).alloc (Nat.le_refl _) _) _ _ (Nat.le_refl _)
theorem markhash_any (i : Nat) (h : i < 12) (w : World) : Calls Tryd.prog 28 #[.int .i64 1, .int .i64 i] w fun e w' => e = .returned (.agg (B8 (markH (markB i)))) ∧ Below w.heap.size w w' := by
  match i, h with
  | 0, _ => exact markhash_0 w
  | 1, _ => exact markhash_1 w
  | 2, _ => exact markhash_2 w
  | 3, _ => exact markhash_3 w
  | 4, _ => exact markhash_4 w
  | 5, _ => exact markhash_5 w
  | 6, _ => exact markhash_6 w
  | 7, _ => exact markhash_7 w
  | 8, _ => exact markhash_8 w
  | 9, _ => exact markhash_9 w
  | 10, _ => exact markhash_10 w
  | 11, _ => exact markhash_11 w
end Go.Proofs.YtccfdobogbiomaaDoor
