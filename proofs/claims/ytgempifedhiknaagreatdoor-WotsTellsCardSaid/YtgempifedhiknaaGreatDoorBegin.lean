/-
  Of: the hash of parts, one behind the other. There are at most a million bytes in all.
-/
import Derived.Test.YtgempifedhiknaaGreatDoorPut
import Derived.Test.YtgempifedhiknaaGreatDoorFin
namespace Go.Proofs.YtgempifedhiknaaGreatDoor
set_option maxRecDepth 100000
open Go.RowKit Sha

def Starts (w : World) : Prop := Lies w 0 (B32 Sha.start.list) 90
theorem info51 : (Tryz.prog.info? 94).map (·.size) = some (WK Sha.start zrow 0 0).size := by
  rw [WK_size _ _ _ _ rfl]; kernel_rfl
theorem built51 : Tryz.prog.built 94 [(0, .agg (B32 Sha.start.list))] = some (WK Sha.start zrow 0 0) := by kernel_rfl
theorem WK_one (s : Eight) (row : List UInt8) (held all : Nat) : (WK s row held all).all (·.oneCell') = true := by
  have h1 := Array.all_eq_true_iff_forall_mem.1 (B32_one s.list)
  have h2 := Array.all_eq_true_iff_forall_mem.1 (B8_one row)
  rw [Array.all_eq_true_iff_forall_mem]
  intro v hv
  unfold WK tail2 at hv
  rw [Array.mem_append, Array.mem_append] at hv
  rcases hv with hv | hv | hv
  · exact h1 v hv
  · exact h2 v hv
  · simp at hv; rcases hv with rfl | rfl <;> rfl

def zero8 : Eight := ⟨0, 0, 0, 0, 0, 0, 0, 0⟩
theorem zero51 (w : World) : Sem.run Tryz.prog (zeroValue 94) w = .ok (.agg (WK zero8 zrow 0 0)) w := by kernel_rfl

theorem wpList_build_WK {w : World} {ops : Array Oper} {rest : List Oper} {o : Oper} {a : Act} {Q : Exit → Act → World → Prop} (hg : o.guard = none) (parts : Array (Nat × Operand)) (ho : o.op = .build 94 parts)
    (hp : (parts.map fun (i, x) => (i, a.eval x)).toList = [(0, .agg (B32 Sha.start.list))])
    (h : wpList Tryz.prog ops Q rest (a.put o.dst (.agg (WK Sha.start zrow 0 0))) w) : wpList Tryz.prog ops Q (o :: rest) a w := by
  refine wpList_build hg 94 parts ho (by rw [hp, built51]; rfl) ?_
  rw [hp, built51]
  exact h

theorem size51 : (WK zero8 zrow 0 0).size = (WK Sha.start zrow 0 0).size := by rw [WK_size _ _ _ _ rfl, WK_size _ _ _ _ rfl]

set_option maxRecDepth 100000 in
set_option maxHeartbeats 1000000 in
theorem begin_any (w : World) (hs : Starts w) :
    Calls Tryz.prog 26 #[] w fun e w' => e = .returned (.agg (WK Sha.start zrow 0 0)) ∧ Below w.heap.size w w' := by
  have HS := Lib.hid hs
  clear hs
  have hz := zero51
  go_enter Tryz.func26, Tryz.ntmps26
  go_wp2_with (first | (refine wpList_load_row rfl 90 _ rfl 0 rfl 90 _ (0, 0) _ (HS.out.alloc _) Tryz.underlying90 rfl (by kernel_rfl) ?_) | (refine wpList_build_WK rfl _ rfl rfl ?_) | (refine wpList_store_row rfl 94 _ _ rfl w.heap.size (WK Sha.start zrow 0 0) rfl rfl 94 (WK zero8 zrow 0 0) (Lies.new w _ _) info51 size51 (WK_one _ _ _ _) ?_))
  refine bodyPost_ret (v := .agg (WK Sha.start zrow 0 0)) (results_cell_row (p := 0) (ty := 94) (by kernel_rfl) _ _ w.heap.size 94 (WK Sha.start zrow 0 0) (0, 0) _ rfl ((Lies.new w _ _).setRow _) Tryz.underlying94 rfl info51) rfl ⟨rfl, below_setRow ((Below.refl _ _).alloc (Nat.le_refl _) _) _ _ (Nat.le_refl _)⟩
end Go.Proofs.YtgempifedhiknaaGreatDoor
