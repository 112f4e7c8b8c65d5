/-
  LentHashes: a copy of any hashes (at most 40), twelve marks behind them within its room.
  LentHashes: a copy of any hashes (at most 40), twelve marks behind them within its room.
  KeptHashes: what was lent is as it was.
-/
import Derived.Test.YtgempifedhiknaaDoorWaw
import Derived.Deep.DeepMust
import Derived.Deep.Cut
import Derived.Test.YtgempifedhiknaaDoorWsh
import Derived.Lib.QuietBelow
import Derived.BigQuiet
import Derived.IntWalk
namespace Go.Proofs.YtgempifedhiknaaDoor
open Go.RowKit Sha

def markB (i : Nat) : UInt8 := UInt8.ofNat (8000024 + i)
def markH (b : UInt8) : List UInt8 := b :: List.replicate 31 0
theorem markH_length (b : UInt8) : (markH b).length = 32 := rfl
theorem built27 (b : UInt8) : Tryd.prog.built 26 [(0, .int .u8 b.toNat)] = some (B8 (markH b)) := by kernel_rfl
theorem wpList_build_H {w : World} {ops : Array Oper} {rest : List Oper} {o : Oper} {a : Act} {Q : Exit → Act → World → Prop} (hg : o.guard = none) (parts : Array (Nat × Operand)) (ho : o.op = .build 26 parts) (b : UInt8)
    (hp : (parts.map fun (i, x) => (i, a.eval x)).toList = [(0, .int .u8 b.toNat)])
    (h : wpList Tryd.prog ops Q rest (a.put o.dst (.agg (B8 (markH b)))) w) : wpList Tryd.prog ops Q (o :: rest) a w := by
  refine wpList_build hg 26 parts ho (by rw [hp, built27]; rfl) ?_
  rw [hp, built27]
  exact h
theorem mark35_0 (w : World) : Calls Tryd.prog 35 #[.int .i64 1, .int .i64 0] w fun e w' => e = .returned (.int .i64 8000024) ∧ w = w' := by
  go_enter Tryd.func35, Tryd.ntmps35
  go_wp2
  go_ret
  exact ⟨rfl, rfl⟩
set_option maxRecDepth 100000 in
set_option maxHeartbeats 1000000 in
theorem markhash_0 (w : World) : Calls Tryd.prog 21 #[.int .i64 1, .int .i64 0] w fun e w' => e = .returned (.agg (B8 (markH (markB 0)))) ∧ Below w.heap.size w w' := by
  go_enter Tryd.func21, Tryd.ntmps21
  go_wp2_with (first | (go_at_call 35; refine (mark35_0 _).mono ?_; rintro e w' ⟨rfl, rfl⟩) | (refine wpList_build_H rfl _ rfl (markB 0) rfl ?_) | (refine wpList_store_row rfl 26 _ _ rfl w.heap.size (B8 (markH (markB 0))) rfl rfl 26 z32 (Lies.new w z32 26) info27 rfl (B8_one _) ?_))
  refine bodyPost_ret (v := .agg (B8 (markH (markB 0)))) (results_cell_row (p := 4) (ty := 26) (by kernel_rfl) _ _ w.heap.size 26 (B8 (markH (markB 0))) (0, 0) _ rfl ((Lies.new w z32 26).setRow _) Tryd.underlying26 rfl info27) rfl ⟨rfl, ?_⟩
  exact below_setRow ((Below.refl _ _).alloc (Nat.le_refl _) _) _ _ (Nat.le_refl _)
theorem mark35_1 (w : World) : Calls Tryd.prog 35 #[.int .i64 1, .int .i64 1] w fun e w' => e = .returned (.int .i64 8000025) ∧ w = w' := by
  go_enter Tryd.func35, Tryd.ntmps35
  go_wp2
  go_ret
  exact ⟨rfl, rfl⟩
set_option maxRecDepth 100000 in
set_option maxHeartbeats 1000000 in
theorem markhash_1 (w : World) : Calls Tryd.prog 21 #[.int .i64 1, .int .i64 1] w fun e w' => e = .returned (.agg (B8 (markH (markB 1)))) ∧ Below w.heap.size w w' := by
  go_enter Tryd.func21, Tryd.ntmps21
  go_wp2_with (first | (go_at_call 35; refine (mark35_1 _).mono ?_; rintro e w' ⟨rfl, rfl⟩) | (refine wpList_build_H rfl _ rfl (markB 1) rfl ?_) | (refine wpList_store_row rfl 26 _ _ rfl w.heap.size (B8 (markH (markB 1))) rfl rfl 26 z32 (Lies.new w z32 26) info27 rfl (B8_one _) ?_))
  refine bodyPost_ret (v := .agg (B8 (markH (markB 1)))) (results_cell_row (p := 4) (ty := 26) (by kernel_rfl) _ _ w.heap.size 26 (B8 (markH (markB 1))) (0, 0) _ rfl ((Lies.new w z32 26).setRow _) Tryd.underlying26 rfl info27) rfl ⟨rfl, ?_⟩
  exact below_setRow ((Below.refl _ _).alloc (Nat.le_refl _) _) _ _ (Nat.le_refl _)
theorem mark35_2 (w : World) : Calls Tryd.prog 35 #[.int .i64 1, .int .i64 2] w fun e w' => e = .returned (.int .i64 8000026) ∧ w = w' := by
  go_enter Tryd.func35, Tryd.ntmps35
  go_wp2
  go_ret
  exact ⟨rfl, rfl⟩
set_option maxRecDepth 100000 in
set_option maxHeartbeats 1000000 in
theorem markhash_2 (w : World) : Calls Tryd.prog 21 #[.int .i64 1, .int .i64 2] w fun e w' => e = .returned (.agg (B8 (markH (markB 2)))) ∧ Below w.heap.size w w' := by
  go_enter Tryd.func21, Tryd.ntmps21
  go_wp2_with (first | (go_at_call 35; refine (mark35_2 _).mono ?_; rintro e w' ⟨rfl, rfl⟩) | (refine wpList_build_H rfl _ rfl (markB 2) rfl ?_) | (refine wpList_store_row rfl 26 _ _ rfl w.heap.size (B8 (markH (markB 2))) rfl rfl 26 z32 (Lies.new w z32 26) info27 rfl (B8_one _) ?_))
  refine bodyPost_ret (v := .agg (B8 (markH (markB 2)))) (results_cell_row (p := 4) (ty := 26) (by kernel_rfl) _ _ w.heap.size 26 (B8 (markH (markB 2))) (0, 0) _ rfl ((Lies.new w z32 26).setRow _) Tryd.underlying26 rfl info27) rfl ⟨rfl, ?_⟩
  exact below_setRow ((Below.refl _ _).alloc (Nat.le_refl _) _) _ _ (Nat.le_refl _)
theorem mark35_3 (w : World) : Calls Tryd.prog 35 #[.int .i64 1, .int .i64 3] w fun e w' => e = .returned (.int .i64 8000027) ∧ w = w' := by
  go_enter Tryd.func35, Tryd.ntmps35
  go_wp2
  go_ret
  exact ⟨rfl, rfl⟩
set_option maxRecDepth 100000 in
set_option maxHeartbeats 1000000 in
theorem markhash_3 (w : World) : Calls Tryd.prog 21 #[.int .i64 1, .int .i64 3] w fun e w' => e = .returned (.agg (B8 (markH (markB 3)))) ∧ Below w.heap.size w w' := by
  go_enter Tryd.func21, Tryd.ntmps21
  go_wp2_with (first | (go_at_call 35; refine (mark35_3 _).mono ?_; rintro e w' ⟨rfl, rfl⟩) | (refine wpList_build_H rfl _ rfl (markB 3) rfl ?_) | (refine wpList_store_row rfl 26 _ _ rfl w.heap.size (B8 (markH (markB 3))) rfl rfl 26 z32 (Lies.new w z32 26) info27 rfl (B8_one _) ?_))
  refine bodyPost_ret (v := .agg (B8 (markH (markB 3)))) (results_cell_row (p := 4) (ty := 26) (by kernel_rfl) _ _ w.heap.size 26 (B8 (markH (markB 3))) (0, 0) _ rfl ((Lies.new w z32 26).setRow _) Tryd.underlying26 rfl info27) rfl ⟨rfl, ?_⟩
  exact below_setRow ((Below.refl _ _).alloc (Nat.le_refl _) _) _ _ (Nat.le_refl _)
theorem mark35_4 (w : World) : Calls Tryd.prog 35 #[.int .i64 1, .int .i64 4] w fun e w' => e = .returned (.int .i64 8000028) ∧ w = w' := by
  go_enter Tryd.func35, Tryd.ntmps35
  go_wp2
  go_ret
  exact ⟨rfl, rfl⟩
set_option maxRecDepth 100000 in
set_option maxHeartbeats 1000000 in
theorem markhash_4 (w : World) : Calls Tryd.prog 21 #[.int .i64 1, .int .i64 4] w fun e w' => e = .returned (.agg (B8 (markH (markB 4)))) ∧ Below w.heap.size w w' := by
  go_enter Tryd.func21, Tryd.ntmps21
  go_wp2_with (first | (go_at_call 35; refine (mark35_4 _).mono ?_; rintro e w' ⟨rfl, rfl⟩) | (refine wpList_build_H rfl _ rfl (markB 4) rfl ?_) | (refine wpList_store_row rfl 26 _ _ rfl w.heap.size (B8 (markH (markB 4))) rfl rfl 26 z32 (Lies.new w z32 26) info27 rfl (B8_one _) ?_))
  refine bodyPost_ret (v := .agg (B8 (markH (markB 4)))) (results_cell_row (p := 4) (ty := 26) (by kernel_rfl) _ _ w.heap.size 26 (B8 (markH (markB 4))) (0, 0) _ rfl ((Lies.new w z32 26).setRow _) Tryd.underlying26 rfl info27) rfl ⟨rfl, ?_⟩
  exact below_setRow ((Below.refl _ _).alloc (Nat.le_refl _) _) _ _ (Nat.le_refl _)
theorem mark35_5 (w : World) : Calls Tryd.prog 35 #[.int .i64 1, .int .i64 5] w fun e w' => e = .returned (.int .i64 8000029) ∧ w = w' := by
  go_enter Tryd.func35, Tryd.ntmps35
  go_wp2
  go_ret
  exact ⟨rfl, rfl⟩
set_option maxRecDepth 100000 in
set_option maxHeartbeats 1000000 in
theorem markhash_5 (w : World) : Calls Tryd.prog 21 #[.int .i64 1, .int .i64 5] w fun e w' => e = .returned (.agg (B8 (markH (markB 5)))) ∧ Below w.heap.size w w' := by
  go_enter Tryd.func21, Tryd.ntmps21
  go_wp2_with (first | (go_at_call 35; refine (mark35_5 _).mono ?_; rintro e w' ⟨rfl, rfl⟩) | (refine wpList_build_H rfl _ rfl (markB 5) rfl ?_) | (refine wpList_store_row rfl 26 _ _ rfl w.heap.size (B8 (markH (markB 5))) rfl rfl 26 z32 (Lies.new w z32 26) info27 rfl (B8_one _) ?_))
  refine bodyPost_ret (v := .agg (B8 (markH (markB 5)))) (results_cell_row (p := 4) (ty := 26) (by kernel_rfl) _ _ w.heap.size 26 (B8 (markH (markB 5))) (0, 0) _ rfl ((Lies.new w z32 26).setRow _) Tryd.underlying26 rfl info27) rfl ⟨rfl, ?_⟩
  exact below_setRow ((Below.refl _ _).alloc (Nat.le_refl _) _) _ _ (Nat.le_refl _)
theorem mark35_6 (w : World) : Calls Tryd.prog 35 #[.int .i64 1, .int .i64 6] w fun e w' => e = .returned (.int .i64 8000030) ∧ w = w' := by
  go_enter Tryd.func35, Tryd.ntmps35
  go_wp2
  go_ret
  exact ⟨rfl, rfl⟩
set_option maxRecDepth 100000 in
set_option maxHeartbeats 1000000 in
theorem markhash_6 (w : World) : Calls Tryd.prog 21 #[.int .i64 1, .int .i64 6] w fun e w' => e = .returned (.agg (B8 (markH (markB 6)))) ∧ Below w.heap.size w w' := by
  go_enter Tryd.func21, Tryd.ntmps21
  go_wp2_with (first | (go_at_call 35; refine (mark35_6 _).mono ?_; rintro e w' ⟨rfl, rfl⟩) | (refine wpList_build_H rfl _ rfl (markB 6) rfl ?_) | (refine wpList_store_row rfl 26 _ _ rfl w.heap.size (B8 (markH (markB 6))) rfl rfl 26 z32 (Lies.new w z32 26) info27 rfl (B8_one _) ?_))
  refine bodyPost_ret (v := .agg (B8 (markH (markB 6)))) (results_cell_row (p := 4) (ty := 26) (by kernel_rfl) _ _ w.heap.size 26 (B8 (markH (markB 6))) (0, 0) _ rfl ((Lies.new w z32 26).setRow _) Tryd.underlying26 rfl info27) rfl ⟨rfl, ?_⟩
  exact below_setRow ((Below.refl _ _).alloc (Nat.le_refl _) _) _ _ (Nat.le_refl _)
theorem mark35_7 (w : World) : Calls Tryd.prog 35 #[.int .i64 1, .int .i64 7] w fun e w' => e = .returned (.int .i64 8000031) ∧ w = w' := by
  go_enter Tryd.func35, Tryd.ntmps35
  go_wp2
  go_ret
  exact ⟨rfl, rfl⟩
set_option maxRecDepth 100000 in
set_option maxHeartbeats 1000000 in
theorem markhash_7 (w : World) : Calls Tryd.prog 21 #[.int .i64 1, .int .i64 7] w fun e w' => e = .returned (.agg (B8 (markH (markB 7)))) ∧ Below w.heap.size w w' := by
  go_enter Tryd.func21, Tryd.ntmps21
  go_wp2_with (first | (go_at_call 35; refine (mark35_7 _).mono ?_; rintro e w' ⟨rfl, rfl⟩) | (refine wpList_build_H rfl _ rfl (markB 7) rfl ?_) | (refine wpList_store_row rfl 26 _ _ rfl w.heap.size (B8 (markH (markB 7))) rfl rfl 26 z32 (Lies.new w z32 26) info27 rfl (B8_one _) ?_))
  refine bodyPost_ret (v := .agg (B8 (markH (markB 7)))) (results_cell_row (p := 4) (ty := 26) (by kernel_rfl) _ _ w.heap.size 26 (B8 (markH (markB 7))) (0, 0) _ rfl ((Lies.new w z32 26).setRow _) Tryd.underlying26 rfl info27) rfl ⟨rfl, ?_⟩
  exact below_setRow ((Below.refl _ _).alloc (Nat.le_refl _) _) _ _ (Nat.le_refl _)
theorem mark35_8 (w : World) : Calls Tryd.prog 35 #[.int .i64 1, .int .i64 8] w fun e w' => e = .returned (.int .i64 8000032) ∧ w = w' := by
  go_enter Tryd.func35, Tryd.ntmps35
  go_wp2
  go_ret
  exact ⟨rfl, rfl⟩
set_option maxRecDepth 100000 in
set_option maxHeartbeats 1000000 in
theorem markhash_8 (w : World) : Calls Tryd.prog 21 #[.int .i64 1, .int .i64 8] w fun e w' => e = .returned (.agg (B8 (markH (markB 8)))) ∧ Below w.heap.size w w' := by
  go_enter Tryd.func21, Tryd.ntmps21
  go_wp2_with (first | (go_at_call 35; refine (mark35_8 _).mono ?_; rintro e w' ⟨rfl, rfl⟩) | (refine wpList_build_H rfl _ rfl (markB 8) rfl ?_) | (refine wpList_store_row rfl 26 _ _ rfl w.heap.size (B8 (markH (markB 8))) rfl rfl 26 z32 (Lies.new w z32 26) info27 rfl (B8_one _) ?_))
  refine bodyPost_ret (v := .agg (B8 (markH (markB 8)))) (results_cell_row (p := 4) (ty := 26) (by kernel_rfl) _ _ w.heap.size 26 (B8 (markH (markB 8))) (0, 0) _ rfl ((Lies.new w z32 26).setRow _) Tryd.underlying26 rfl info27) rfl ⟨rfl, ?_⟩
  exact below_setRow ((Below.refl _ _).alloc (Nat.le_refl _) _) _ _ (Nat.le_refl _)
theorem mark35_9 (w : World) : Calls Tryd.prog 35 #[.int .i64 1, .int .i64 9] w fun e w' => e = .returned (.int .i64 8000033) ∧ w = w' := by
  go_enter Tryd.func35, Tryd.ntmps35
  go_wp2
  go_ret
  exact ⟨rfl, rfl⟩
set_option maxRecDepth 100000 in
set_option maxHeartbeats 1000000 in
theorem markhash_9 (w : World) : Calls Tryd.prog 21 #[.int .i64 1, .int .i64 9] w fun e w' => e = .returned (.agg (B8 (markH (markB 9)))) ∧ Below w.heap.size w w' := by
  go_enter Tryd.func21, Tryd.ntmps21
  go_wp2_with (first | (go_at_call 35; refine (mark35_9 _).mono ?_; rintro e w' ⟨rfl, rfl⟩) | (refine wpList_build_H rfl _ rfl (markB 9) rfl ?_) | (refine wpList_store_row rfl 26 _ _ rfl w.heap.size (B8 (markH (markB 9))) rfl rfl 26 z32 (Lies.new w z32 26) info27 rfl (B8_one _) ?_))
  refine bodyPost_ret (v := .agg (B8 (markH (markB 9)))) (results_cell_row (p := 4) (ty := 26) (by kernel_rfl) _ _ w.heap.size 26 (B8 (markH (markB 9))) (0, 0) _ rfl ((Lies.new w z32 26).setRow _) Tryd.underlying26 rfl info27) rfl ⟨rfl, ?_⟩
  exact below_setRow ((Below.refl _ _).alloc (Nat.le_refl _) _) _ _ (Nat.le_refl _)
theorem mark35_10 (w : World) : Calls Tryd.prog 35 #[.int .i64 1, .int .i64 10] w fun e w' => e = .returned (.int .i64 8000034) ∧ w = w' := by
  go_enter Tryd.func35, Tryd.ntmps35
  go_wp2
  go_ret
  exact ⟨rfl, rfl⟩
set_option maxRecDepth 100000 in
set_option maxHeartbeats 1000000 in
theorem markhash_10 (w : World) : Calls Tryd.prog 21 #[.int .i64 1, .int .i64 10] w fun e w' => e = .returned (.agg (B8 (markH (markB 10)))) ∧ Below w.heap.size w w' := by
  go_enter Tryd.func21, Tryd.ntmps21
  go_wp2_with (first | (go_at_call 35; refine (mark35_10 _).mono ?_; rintro e w' ⟨rfl, rfl⟩) | (refine wpList_build_H rfl _ rfl (markB 10) rfl ?_) | (refine wpList_store_row rfl 26 _ _ rfl w.heap.size (B8 (markH (markB 10))) rfl rfl 26 z32 (Lies.new w z32 26) info27 rfl (B8_one _) ?_))
  refine bodyPost_ret (v := .agg (B8 (markH (markB 10)))) (results_cell_row (p := 4) (ty := 26) (by kernel_rfl) _ _ w.heap.size 26 (B8 (markH (markB 10))) (0, 0) _ rfl ((Lies.new w z32 26).setRow _) Tryd.underlying26 rfl info27) rfl ⟨rfl, ?_⟩
  exact below_setRow ((Below.refl _ _).alloc (Nat.le_refl _) _) _ _ (Nat.le_refl _)
theorem mark35_11 (w : World) : Calls Tryd.prog 35 #[.int .i64 1, .int .i64 11] w fun e w' => e = .returned (.int .i64 8000035) ∧ w = w' := by
  go_enter Tryd.func35, Tryd.ntmps35
  go_wp2
  go_ret
  exact ⟨rfl, rfl⟩
set_option maxRecDepth 100000 in
set_option maxHeartbeats 1000000 in
theorem markhash_11 (w : World) : Calls Tryd.prog 21 #[.int .i64 1, .int .i64 11] w fun e w' => e = .returned (.agg (B8 (markH (markB 11)))) ∧ Below w.heap.size w w' := by
  go_enter Tryd.func21, Tryd.ntmps21
  go_wp2_with (first | (go_at_call 35; refine (mark35_11 _).mono ?_; rintro e w' ⟨rfl, rfl⟩) | (refine wpList_build_H rfl _ rfl (markB 11) rfl ?_) | (refine wpList_store_row rfl 26 _ _ rfl w.heap.size (B8 (markH (markB 11))) rfl rfl 26 z32 (Lies.new w z32 26) info27 rfl (B8_one _) ?_))
  refine bodyPost_ret (v := .agg (B8 (markH (markB 11)))) (results_cell_row (p := 4) (ty := 26) (by kernel_rfl) _ _ w.heap.size 26 (B8 (markH (markB 11))) (0, 0) _ rfl ((Lies.new w z32 26).setRow _) Tryd.underlying26 rfl info27) rfl ⟨rfl, ?_⟩
  exact below_setRow ((Below.refl _ _).alloc (Nat.le_refl _) _) _ _ (Nat.le_refl _)
theorem markhash_any (i : Nat) (h : i < 12) (w : World) : Calls Tryd.prog 21 #[.int .i64 1, .int .i64 i] w fun e w' => e = .returned (.agg (B8 (markH (markB i)))) ∧ Below w.heap.size w w' := by
  match i, h with
  | 0, _ => exact markhash_0 w
  | 1, _ => exact markhash_1 w
  | 2, _ => exact markhash_2 w
  | 3, _ => exact markhash_3 w
  | 4, _ => exact markhash_4 w
  | 5, _ => exact markhash_5 w
  | 6, _ => exact markhash_6 w
  | 7, _ => exact markhash_7 w
  | 8, _ => exact markhash_8 w
  | 9, _ => exact markhash_9 w
  | 10, _ => exact markhash_10 w
  | 11, _ => exact markhash_11 w
end Go.Proofs.YtgempifedhiknaaDoor
namespace Go.Proofs.YtgempifedhiknaaDoor
open Go.RowKit Sha

def marksH (n : Nat) : List UInt8 := (List.range n).flatMap fun i => markH (markB i)
theorem marksH_length (n : Nat) : (marksH n).length = 32 * n := by
  induction n with
  | zero => rfl
  | succ n ih =>
    unfold marksH at ih ⊢
    rw [List.range_succ, List.flatMap_append, List.length_append, ih]
    simp [markH]
    omega
theorem marksH_succ (n : Nat) : marksH (n + 1) = marksH n ++ markH (markB n) := by simp [marksH, List.range_succ]
theorem info27b : (Tryd.prog.info? 26).map (fun i => (i.zero, i.size, i.bytes)) = some (some (.agg z32), 32, 32) := by kernel_rfl
theorem lies_srcB {w : World} {g : Nat} {xs : List UInt8} {t : TypeId} (h : Lies w g (B8 xs) t) : Src w g 0 xs := fun j hj => by rw [Nat.zero_add]; exact h.cell j (B8_get xs j hj)
/-- Hashes in a row of the call's own. -/
def AtHs (w0 : World) (k : Nat) (l : List UInt8) (v : Value) (w : World) : Prop := w.ownsRow w0.heap.size 26 32 v k (B8 l).toList ∧ Below w0.heap.size w0 w
theorem AtHs.alloc {w0 : World} {k : Nat} {l : List UInt8} {v : Value} {w : World} (h : AtHs w0 k l v w) (o : Obj) : AtHs w0 k l v (w.alloc o) := ⟨h.1.alloc o, h.2.alloc h.2.size o⟩
theorem AtHs.shape {w0 : World} {k : Nat} {l : List UInt8} {v : Value} {w : World} (h : AtHs w0 k l v w) (hl : 0 < k) : ∃ g c, v = .slice (some ⟨g, 0, none⟩) k c := by
  rcases h.1.2 with ⟨_, h0⟩ | ⟨g, cap, cur, rfl, _⟩
  · omega
  · exact ⟨g, cap, rfl⟩
theorem AtHs.room {w0 : World} {k n : Nat} {l : List UInt8} {g c : Nat} {w : World} (h : AtHs w0 k l (.slice (some ⟨g, 0, none⟩) n c) w) : k ≤ c ∧ c ≤ maxLen ∧ g < w.heap.size ∧ w0.heap.size ≤ g ∧ n = k := by
  rcases h.1.2 with ⟨e, _⟩ | ⟨g', cap, cur, e, hb, hh, h1, h2, _⟩
  · cases e
  · cases e; exact ⟨h1, h2, (Array.getElem?_eq_some_iff.1 hh).1, hb, rfl⟩
theorem wp_moreH {w0 w : World} {o : Oper} {a : Act} {K : Act → World → Prop} {Q : Exit → Act → World → Prop} (sx x : Operand)
    (ho : o.op = .call { callee := .builtin .append, args := #[sx, x], argTypes := #[22, 22] }) (d : Tmp) (hd : o.dst = some d) (k : Nat) (l : List UInt8) (v : Value) (ad : Addr) (m : Nat) (xs : List UInt8) (c : Nat)
    (hs : a.eval sx = v) (hx : a.eval x = .slice (some ad) m c) (hm : xs.length = 32 * m) (hsrc : 0 < m → ∃ g off, ad = ⟨g, off, none⟩ ∧ Src w g off xs) (hl : k + m ≤ 1000) (h : AtHs w0 k l v w)
    (kk : ∀ v' w', AtHs w0 (k + m) (l ++ xs) v' w' → w.grownBy w' v.ownBlock → K (a.put (some d) v') w') : o.wp Tryd.prog a w K Q := by
  obtain ⟨i0, hi0, hz0, hz1, hz2⟩ := info_parts info27b
  refine wp_append_own (P := Tryd.prog) w sx x 22 ho w0.heap.size 26 i0 (.agg z32) 32 32 Tryd.underlying22 hi0 hz0 hz1 hz2 rfl (by decide) v k (B8 l).toList hs h.1 ad m c (B8 xs).toList hx (by rw [Array.length_toList, B8_size, hm, Nat.mul_comm]) ?_ (byts_one _) (by unfold maxLen; omega) (by omega) h.2.size ?_
  · by_cases hp : 0 < m
    · obtain ⟨g, off, rfl, hsr⟩ := hsrc hp
      exact src_news hsr
    · obtain rfl : m = 0 := by omega
      have hx0 : xs = [] := List.eq_nil_of_length_eq_zero (by omega)
      subst hx0
      intro j u hu
      simp [B8] at hu
  · intro v' w' hown hgrow _
    rw [hd]
    refine kk v' w' ⟨?_, h.2.grown hgrow h.2.size (fun j e => (h.1.lt j e).1)⟩ hgrow
    have e : (B8 (l ++ xs)).toList = (B8 l).toList ++ (B8 xs).toList := by simp [B8]
    rw [e]; exact hown
theorem wp_moreH_none {w0 w : World} {o : Oper} {a : Act} {K : Act → World → Prop} {Q : Exit → Act → World → Prop} (sx x : Operand)
    (ho : o.op = .call { callee := .builtin .append, args := #[sx, x], argTypes := #[22, 22] }) (d : Tmp) (hd : o.dst = some d) (k : Nat) (l : List UInt8) (v : Value)
    (hs : a.eval sx = v) (hx : a.eval x = .slice none 0 0) (h : AtHs w0 k l v w) (kk : K (a.put (some d) v) w) : o.wp Tryd.prog a w K Q := by
  obtain ⟨i0, hi0, _⟩ := info_parts info27b
  have hrun := run_append_owned_none (P := Tryd.prog) (w := w) w0.heap.size 22 o.type 26 i0 32 Tryd.underlying22 hi0 v k (B8 l).toList h.1
  unfold Oper.wp
  simp [execOp, ho, resolve, invoke, builtin, hs, hx, hrun, Result.andThen]
  rw [Oper.upon_value, hd]
  exact kk

theorem run_slot (b : UInt8) (w : World) : (Instr.buildSlice 22 1 #[(0, .agg (B8 (markH b)))]).run Tryd.prog w = .ok (.slice (some ⟨w.heap.size, 0, none⟩) 1 1) (w.alloc (.cells (B8 (markH b)) 26)) := by kernel_rfl
theorem wpList_slot {w : World} {ops : Array Oper} {rest : List Oper} {o : Oper} {a : Act} {Q : Exit → Act → World → Prop} (hg : o.guard = none) (x : Operand) (ho : o.op = .buildSlice 22 1 #[(0, x)]) (b : UInt8) (hx : a.eval x = .agg (B8 (markH b)))
    (h : wpList Tryd.prog ops Q rest (a.put o.dst (.slice (some ⟨w.heap.size, 0, none⟩) 1 1)) (w.alloc (.cells (B8 (markH b)) 26))) : wpList Tryd.prog ops Q (o :: rest) a w := by
  refine wpList_plain hg fun K hK => ?_
  unfold Oper.wp execOp
  have e : (#[(0, x)].map fun (i, y) => (i, a.eval y)) = #[(0, Value.agg (B8 (markH b)))] := by simp [hx]
  simp only [ho, e, Sem.run_bind, run_slot, Result.andThen_ok]
  exact hK _ _ h

/-- New hashes, k, in block n, with room for c. -/
def OwnH (w : World) (n c k : Nat) (l : List UInt8) : Prop := w.ownsRow 0 26 32 (.slice (some ⟨n, 0, none⟩) k c) k (B8 l).toList
theorem AtHs.ownH {w0 : World} {k : Nat} {l : List UInt8} {g c : Nat} {w : World} (h : AtHs w0 k l (.slice (some ⟨g, 0, none⟩) k c) w) : OwnH w g c k l := by
  refine ⟨h.1.1, ?_⟩
  rcases h.1.2 with ⟨e, _⟩ | ⟨g', cap, cur, e, _, h2⟩
  · cases e
  · exact .inr ⟨g', cap, cur, e, Nat.zero_le _, h2⟩
def LentHs (w : World) (m : Nat) (F : List UInt8) (e : Ending) (w' : World) : Prop :=
  ∃ n c, e = .returned (.slice (some ⟨n, 0, none⟩) m c) ∧ OwnH w' n c (m + 12) (F ++ marksH 12) ∧ w.heap.size ≤ n ∧ Below w.heap.size w w'

set_option maxRecDepth 100000 in
set_option maxHeartbeats 2000000 in
theorem lenth_any (m : Nat) (F : List UInt8) (v : Option Addr) (cap : Nat) (w : World) (hm : m ≤ 300) (hF : F.length = 32 * m) (hneat : v = none → m = 0 ∧ cap = 0)
    (hsrc : 0 < m → ∃ g off, v = some ⟨g, off, none⟩ ∧ g < w.heap.size ∧ Src w g off F) :
    Calls Tryd.prog 8 #[.slice v m cap] w (LentHs w m F) := by
  obtain ⟨i0, hi0, hz0, hz1, hz2⟩ := info_parts info27b
  have HS := Lib.hid hsrc
  have HN := Lib.hid hneat
  have HF := Lib.hid hF
  have hmk : i0.bytes * (m + 12) ≤ 281474976710656 := by rw [hz2]; omega
  have HMK := Lib.hid hmk
  have HI := Lib.hid (And.intro hi0 (And.intro hz0 hz1))
  clear hsrc hneat hmk hi0 hz0 hz1 hz2 hF
  go_enter Tryd.func8, Tryd.ntmps8
  go_upto_region 2 with (at_make; go_must (refine wpList_make_own _ rfl _ _ 22 rfl w.heap.size 26 i0 (.agg z32) 32 Tryd.underlying22 HI.out.1 HI.out.2.1 HI.out.2.2 .i64 .i64 _ (m + 12) rfl rfl rfl HMK.out (by unfold maxLen; omega) (Nat.le_refl _) ?_; intro w2 hown hgrow))
  have hq : AtHs w 0 [] (.slice (some ⟨w.heap.size, 0, none⟩) 0 (m + 12)) w2 := ⟨hown, (Below.refl _ _).grown hgrow (Nat.le_refl _) (fun j e => by cases e)⟩
  have hsr2 : 0 < m → ∃ g off, v = some ⟨g, off, none⟩ ∧ Src w2 g off F := fun hp => by
    obtain ⟨g, off, e, hg, hs⟩ := HS.out hp
    exact ⟨g, off, e, hs.below hq.2 hg⟩
  have HQ := Lib.hid hq
  have HS2 := Lib.hid hsr2
  clear hq hown hgrow HI HMK HS hsr2
  have key : ∀ v3 w3, AtHs w (0 + m) ([] ++ F) v3 w3 → AtHs w m F v3 w3 := fun v3 w3 h => by rwa [Nat.zero_add, List.nil_append] at h
  have KEY := Lib.hid key
  clear key
  go_cut [3] from 5 (fun v' w' => AtHs w m F v' w')
  case first =>
    cases v with
    | none =>
      obtain ⟨rfl, rfl⟩ := HN.out rfl
      obtain rfl : F = [] := List.eq_nil_of_length_eq_zero (by rw [HF.out])
      go_wp2_with (at_builtin; go_must (refine wpList_plain rfl (fun K hK => wp_moreH_none _ _ rfl 11 rfl 0 [] _ rfl rfl HQ.out ?_); refine hK _ _ ?_; clear hK K))
      go_meet
      case rel => exact HQ.out
    | some ad =>
      have hs3 : 0 < m → ∃ g off, ad = ⟨g, off, none⟩ ∧ Src w2 g off F := fun hp => by
        obtain ⟨g, off, e, hs⟩ := HS2.out hp
        exact ⟨g, off, Option.some.inj e, hs⟩
      have HS3 := Lib.hid hs3
      clear hs3
      go_wp2_with (at_builtin; go_must (refine wpList_plain rfl (fun K hK => wp_moreH _ _ rfl 11 rfl 0 [] _ ad m F cap rfl rfl HF.out HS3.out (by omega) HQ.out ?_); intro v3 w3 HQ3 _; refine hK _ _ ?_; clear hK K; replace HQ3 := Lib.hid (KEY.out _ _ HQ3)))
      go_meet
      case rel => exact HQ3.out
  case rest =>
    have HC := Lib.hid hcut
    clear hcut HQ HS2 KEY
    go_wp2_with fail
    go_loopw [3, 4] (fun v i wr => ∃ k : Nat, k ≤ 12 ∧ i = .int .i64 k ∧ AtHs w (m + k) (F ++ marksH k) v wr) (fun _ i _ => 12 - (intOf i).toNat)
    case atStart => exact ⟨0, by omega, rfl, by have := HC.out; simpa [marksH] using this⟩
    case round =>
      obtain ⟨k, hk, rfl, hat⟩ := hrel
      have HA := Lib.hid hat
      clear hat HC
      by_cases hlt : k < 12
      · have m1 : (k : Int) < 12 := by omega
        go_wp2_with fail
        refine (markhash_any k hlt wr).mono ?_
        rintro e w5 ⟨rfl, hb5⟩
        have ha5 : AtHs w (m + k) (F ++ marksH k) u3 w5 := by
          obtain ⟨q1, q2⟩ := HA.out
          refine ⟨⟨q1.1, ?_⟩, q2.trans (hb5.mono q2.size)⟩
          rcases q1.2 with h | ⟨g', cap', cur, e, hbase, hb, h2⟩
          · exact .inl h
          · exact .inr ⟨g', cap', cur, e, hbase, (hb5.block g' (Array.getElem?_eq_some_iff.1 hb).1).trans hb, h2⟩
        have HA5 := Lib.hid (ha5.alloc (.cells (B8 (markH (markB k))) 26))
        have hsn : 0 < 1 → ∃ g off, (⟨w5.heap.size, 0, none⟩ : Addr) = ⟨g, off, none⟩ ∧ Src (w5.alloc (.cells (B8 (markH (markB k))) 26)) g off (markH (markB k)) := fun _ => ⟨_, _, rfl, lies_srcB (Lies.new w5 _ 26)⟩
        have hsu : F ++ marksH k ++ markH (markB k) = F ++ marksH (k + 1) := by rw [marksH_succ, List.append_assoc]
        have HSN := Lib.hid hsn
        have HSU := Lib.hid hsu
        clear hb5 ha5 HA hsn hsu
        go_wp2_with (first | (refine wpList_slot rfl _ rfl (markB k) rfl ?_) | (at_builtin; go_must (refine wpList_plain rfl (fun K hK => wp_moreH _ _ rfl 20 rfl (m + k) (F ++ marksH k) _ ⟨w5.heap.size, 0, none⟩ 1 (markH (markB k)) 1 rfl rfl rfl HSN.out (by omega) HA5.out ?_); intro v6 w6 HQ6 _; refine hK _ _ ?_; clear hK K; rw [HSU.out] at HQ6; replace HQ6 := Lib.hid HQ6)))
        refine ⟨⟨k + 1, by omega, by go_num, HQ6.out⟩, ?_⟩
        simp [intOf]; omega
      · have hk12 : k = 12 := by omega
        subst hk12
        obtain ⟨g, c, hv⟩ := HA.out.shape (by omega)
        have hat := HA.out
        rw [hv] at hat ⊢
        obtain ⟨r1, r2, r3, r4, _⟩ := hat.room
        have HOB := Lib.hid hat.ownH
        have HB := Lib.hid hat.2
        have s1 : (m : Int) ≤ (c : Int) := by omega
        have s2 : ¬ c = 0 := by omega
        clear hat hv HA hlt hk
        go_wp2_with fail
        go_ret
        exact ⟨g, c, rfl, HOB.out, r4, HB.out⟩
end Go.Proofs.YtgempifedhiknaaDoor
namespace Go.Proofs.YtgempifedhiknaaDoor
open Go.RowKit Sha Go.Sort

theorem OwnH.src {w : World} {n c k : Nat} {l : List UInt8} (h : OwnH w n c k l) : Src w n 0 l ∧ n < w.heap.size ∧ k ≤ c ∧ c ≤ maxLen := by
  refine ⟨fun j hj => ?_, ?_⟩
  · have := h.cells (g := n) rfl j _ (by rw [Array.getElem?_toList, B8_get l j hj])
    rwa [Addr.add_mid] at this
  · rcases h.2 with ⟨e, _⟩ | ⟨g', cap, cur, e, _, hb, h1, h2, _⟩
    · cases e
    · cases e; exact ⟨(Array.getElem?_eq_some_iff.1 hb).1, h1, h2⟩
set_option maxRecDepth 100000 in
set_option maxHeartbeats 1000000 in
theorem kepth_any (m : Nat) (F : List UInt8) (v : Option Addr) (cap n c : Nat) (w : World) (hm : m ≤ 300) (hF : F.length = 32 * m)
    (hsrc : 0 < m → ∃ g off, v = some ⟨g, off, none⟩ ∧ g < w.heap.size ∧ Src w g off F) (ho : OwnH w n c (m + 12) (F ++ marksH 12)) :
    Calls Tryd.prog 11 #[.slice (some ⟨n, 0, none⟩) m c, .slice v m cap] w fun e w' => e = .returned (.bool true) ∧ Below w.heap.size w w' := by
  obtain ⟨hos, hn, r1, r2⟩ := ho.src
  have HS := Lib.hid hsrc
  have HO := Lib.hid hos
  have HF := Lib.hid hF
  have HN := Lib.hid hn
  have m1 : (m : Int) + 12 ≤ (c : Int) := by omega
  have m2 : ((m : Int) + 12).toNat = m + 12 := by omega
  have m3 : ¬ c = 0 := by omega
  have m4 : ((m : Int) != (m : Int)) = false := by simp
  have hlx : (F ++ marksH 12).length = 32 * (m + 12) := by rw [List.length_append, hF, marksH_length]; omega
  have HLX := Lib.hid hlx
  clear hsrc ho hos hn hF hlx
  go_enter Tryd.func11, Tryd.ntmps11
  go_wp2_with fail
  go_loopw [6] (fun i wr => ∃ k : Nat, k ≤ m + 12 ∧ i = .int .i64 k ∧ Below w.heap.size w wr) (fun i _ => m + 12 - (intOf i).toNat)
  case atStart => exact ⟨0, by omega, rfl, Below.refl _ _⟩
  case round =>
    obtain ⟨k, hk, rfl, hb⟩ := hrel
    have HB := Lib.hid hb
    clear hb
    by_cases hlt : k < m + 12
    · have i1 : (k : Int) < (m : Int) + 12 := by omega
      have f0 : (0 : Int) ≤ (k : Int) := by omega
      have hx1 : HashAt wr n (0 + k * 32) (((F ++ marksH 12).drop (32 * k)).take 32) := (hash_src HO.out HN.out k (by rw [HLX.out]; omega)).below HB.out HN.out
      rw [Nat.zero_add] at hx1
      by_cases hl : k < m
      · obtain ⟨g, off, rfl, hgw, hs⟩ := HS.out (by omega)
        have hx2 : HashAt wr g (off + k * 32) ((F.drop (32 * k)).take 32) := (hash_src hs hgw k (by rw [HF.out]; omega)).below HB.out hgw
        have e : ((F ++ marksH 12).drop (32 * k)).take 32 = (F.drop (32 * k)).take 32 := by
          rw [List.drop_append_of_le_length (by rw [HF.out]; omega), List.take_append_of_le_length (by rw [List.length_drop, HF.out]; omega)]
        rw [e] at hx1
        generalize (F.drop (32 * k)).take 32 = X at hx1 hx2
        have heq := equal_same X hx1.1
        have hgu := guard26
        have X1 := Lib.hid hx1
        have X2 := Lib.hid hx2
        have i2 : (k : Int) < (m : Int) := by omega
        have i3 : decide (m ≤ k) = false := by simp; omega
        clear e hs hgw hx1 hx2
        go_wp2_with fail
        refine wp_region_quiet_below (by kernel_rfl) (by kernel_rfl) ?_
        iterate 8 (first | go_big_quiet_step (fail) | quiet_step (fail))
        refine wpQuiet_load26 (by rfl) _ rfl n (k * 32) rfl X X1.out ?_
        iterate 3 (first | go_big_quiet_step (fail) | quiet_step (fail))
        refine wpQuiet_load26 (by rfl) _ rfl g (off + k * 32) rfl X X2.out ?_
        iterate 22 (first | go_big_quiet_step (fail) | quiet_step (fail))
        refine wpQuiet_nil ?_
        rintro w5 ⟨p, hw5⟩
        have HB5 : Hid (Below w.heap.size w w5) := Lib.hid (by rw [hw5]; exact HB.out.trans ((below_regrown wr p.d p.os).mono HB.out.size))
        clear hw5 X1 X2 heq
        go_wp2_with fail
        refine ⟨⟨k + 1, by omega, by go_num, HB5.out⟩, ?_⟩
        simp [intOf]; omega
      · have e : ((F ++ marksH 12).drop (32 * k)).take 32 = markH (markB (k - m)) := by
          have hk12 : k - m < 12 := by omega
          have : (F ++ marksH 12).drop (32 * k) = (marksH 12).drop (32 * (k - m)) := by
            rw [List.drop_append, List.drop_of_length_le (by rw [HF.out]; omega), List.nil_append, HF.out]
            congr 1; omega
          rw [this]
          generalize k - m = d at hk12
          match d, hk12 with
          | 0, _ => rfl
          | 1, _ => rfl
          | 2, _ => rfl
          | 3, _ => rfl
          | 4, _ => rfl
          | 5, _ => rfl
          | 6, _ => rfl
          | 7, _ => rfl
          | 8, _ => rfl
          | 9, _ => rfl
          | 10, _ => rfl
          | 11, _ => rfl
        rw [e] at hx1
        obtain ⟨d, hd⟩ : ∃ d : Nat, d = k - m := ⟨_, rfl⟩
        rw [← hd] at hx1
        have hmk := fun W => markhash_any d (by omega) W
        have hw : IntKind.i64.wrap ((k : Int) - (m : Int)) = (d : Int) := by rw [IntWalk.i64_in _ (by omega)]; omega
        generalize markH (markB d) = X at hx1 hmk
        have heq := equal_same X hx1.1
        have hgu := guard26
        have X1 := Lib.hid hx1
        have HMK := Lib.hid hmk
        have i2 : decide (k < m) = false := by simp; omega
        have i3 : (m : Int) ≤ (k : Int) := by omega
        clear e hx1 hmk hd
        go_wp2_with fail
        refine wp_region_quiet_below (by kernel_rfl) (by kernel_rfl) ?_
        iterate 25 (first | go_big_quiet_step (fail) | quiet_step (fail))
        refine wpQuiet_load26 (by rfl) _ rfl n (k * 32) rfl X X1.out ?_
        iterate 4 (first | go_big_quiet_step (fail) | quiet_step (fail))
        quiet_step ((go_at_call 21; with_reducible exact Calls.regrown_of (HMK.out _)))
        iterate 4 (first | go_big_quiet_step (fail) | quiet_step (fail))
        refine wpQuiet_nil ?_
        rintro w5 ⟨p, hw5⟩
        have HB5 : Hid (Below w.heap.size w w5) := Lib.hid (by rw [hw5]; exact HB.out.trans ((below_regrown wr p.d p.os).mono HB.out.size))
        clear hw5 X1 heq
        go_wp2_with fail
        refine ⟨⟨k + 1, by omega, by go_num, HB5.out⟩, ?_⟩
        simp [intOf]; omega
    · have hd : decide (k < m + 12) = false := by simp; omega
      have i1 : ¬ (k : Int) < (m : Int) + 12 := by omega
      go_wp2_with fail
      go_ret
      exact ⟨rfl, HB.out⟩
end Go.Proofs.YtgempifedhiknaaDoor
