/-
  Hash of a reader that tells nothing: noughts.
-/
import Derived.Test.YtjbjagdpemnhiaaGreatPutNil
import Derived.Laws.Tables
namespace Go.Proofs.YtjbjagdpemnhiaaGreat
open Go.RowKit

def z32 : Array Value := B8 (List.replicate 32 0)
theorem info33 : (Tryz.prog.info? 25).map (·.size) = some z32.size := by kernel_rfl
set_option maxRecDepth 100000 in
theorem tell95_idle (w : World) (p : Option Addr) (fv : Value) (h : Idle w p) : Calls Tryz.prog 88 #[.pointer p, fv] w fun e w' => e = .returned (.agg z32) ∧ Below w.heap.size w w' := by
  have hb1 : Below w.heap.size w (w.alloc (.cells #[.pointer p] 44)) := (Below.refl _ _).alloc (Nat.le_refl _) _
  have hb2 : Below w.heap.size w ((w.alloc (.cells #[.pointer p] 44)).alloc (.cells z32 25)) := hb1.alloc hb1.size _
  have hz : Lies ((w.alloc (.cells #[.pointer p] 44)).alloc (.cells z32 25)) (w.heap.size + 1) z32 25 := by
    have := Lies.new (w.alloc (.cells #[.pointer p] 44)) z32 25
    simpa using this
  have ht := tells_idle _ p (h.below hb2)
  have HT := Lib.hid ht
  have HZ := Lib.hid hz
  have HB := Lib.hid hb2
  clear ht hz hb1 hb2 h
  go_enter_defers Tryz.func88, Tryz.ntmps88
  go_wp2_with fail
  refine HT.out.mono ?_
  rintro e w1 ⟨rfl, rfl⟩
  generalize (w.alloc (.cells #[.pointer p] 44)).alloc (.cells z32 25) = W0 at HZ HB HT ⊢
  go_wp2_with (first
    | (refine wpList_load_row rfl 25 _ rfl (w.heap.size + 1) rfl 25 z32 (0, 0) _ HZ.out Tryz.underlying25 rfl info33 ?_)
    | (refine wpList_store_row rfl 25 _ _ rfl (w.heap.size + 1) z32 rfl rfl 25 z32 HZ.out info33 rfl (B8_one _) ?_))
  refine ⟨_, results_cell_row (p := 4) (ty := 25) (by kernel_rfl) _ _ (w.heap.size + 1) 25 z32 (0, 0) _ rfl (HZ.out.setRow _) Tryz.underlying25 rfl info33, rfl, below_setRow HB.out _ _ (by omega)⟩
set_option maxRecDepth 100000 in
theorem ask57_idle (w : World) (p : Option Addr) (h : Idle w p) : Calls Tryz.prog 50 #[.pointer p] w fun e w' => e = .returned (.agg z32) ∧ Below w.heap.size w w' := by
  have hmf : ∀ (fn : Fn) (first cap : Array Value) (w : World), (Instr.makeFunc fn first cap).run Tryz.prog w = .ok (.func fn first cap) w := fun _ _ _ _ => rfl
  have hb1 : Below w.heap.size w (w.alloc (.cells #[.pointer p] 44)) := (Below.refl _ _).alloc (Nat.le_refl _) _
  have hb2 : Below w.heap.size w ((w.alloc (.cells #[.pointer p] 44)).alloc (.cells z32 25)) := hb1.alloc hb1.size _
  have hz : Lies ((w.alloc (.cells #[.pointer p] 44)).alloc (.cells z32 25)) (w.heap.size + 1) z32 25 := by
    have := Lies.new (w.alloc (.cells #[.pointer p] 44)) z32 25
    simpa using this
  have ht := tell95_idle _ p (.func (Fn.func 89) #[] #[.pointer (some ⟨w.heap.size, 0, none⟩)]) (h.below hb2)
  have HT := Lib.hid ht
  have HZ := Lib.hid hz
  have HB := Lib.hid hb2
  clear ht hz hb1 hb2 h
  go_enter Tryz.func50, Tryz.ntmps50
  go_wp2_with fail
  refine HT.out.mono ?_
  rintro e w1 ⟨rfl, hb⟩
  have hz1 := HZ.out.below hb HZ.out.lt
  have HZ1 := Lib.hid hz1
  have HB1 := Lib.hid (HB.out.trans (hb.mono HB.out.size))
  clear hz1 hb
  go_wp2_with (refine wpList_store_row rfl 25 _ _ rfl (w.heap.size + 1) z32 rfl rfl 25 z32 HZ1.out info33 rfl (B8_one _) ?_)
  refine bodyPost_ret (v := .agg z32) (results_cell_row (p := 2) (ty := 25) (by kernel_rfl) _ _ (w.heap.size + 1) 25 z32 (0, 0) _ rfl (HZ1.out.setRow _) Tryz.underlying25 rfl info33) rfl ⟨rfl, below_setRow HB1.out _ _ (by omega)⟩
end Go.Proofs.YtjbjagdpemnhiaaGreat
