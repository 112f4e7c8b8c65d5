/-
  turn: the row is mixed in, and a new one begun.
-/
import Derived.Test.YtgempifedhiknaaGreatDoorMix
import Derived.Test.YtgempifedhiknaaGreatDoorWork
import Derived.Test.YtgempifedhiknaaGreatDoorStill
namespace Go.Proofs.YtgempifedhiknaaGreatDoor
set_option maxRecDepth 100000
open Go.RowKit Sha

def zrow : List UInt8 := List.replicate 64 0

theorem info48 : (Tryz.prog.info? 91).map (·.size) = some (B8 zrow).size := by
  rw [B8_size]; kernel_rfl

/-- The row of a hash at work is stored anew. -/
theorem wpList_store_WK {w : World} {ops : Array Oper} {rest : List Oper} {op : Oper} {a : Act} {Q : Exit → Act → World → Prop} (hgd : op.guard = none) (x y : Operand) (ho : op.op = .store 91 x y)
    (b : Nat) (hx : a.eval x = .pointer (some ⟨b, 8, none⟩)) (hy : a.eval y = .agg (B8 zrow)) (s : Eight) (row : List UInt8) (held all : Nat) (hr : row.length = 64)
    (h1 : Lies w b (WK s row held all) 94)
    (h : ∀ w2, Hid (Lies w2 b (WK s zrow held all) 94) → Hid (w.grownBy w2 (some b)) → w2.cell? ⟨b, 72, none⟩ = some (.int .i64 held) → w2.frozen? ⟨b, 72, none⟩ = false →
      wpList Tryz.prog ops Q rest (a.put op.dst undef) w2) : wpList Tryz.prog ops Q (op :: rest) a w := by
  have h3 : Lies (w.setCells b 8 (B8 zrow).toList) b (WK s zrow held all) 94 := WK_store h1 hr zrow rfl
  have ht : w.there b 8 (B8 zrow).size := Lies.there h1 (by rw [WK_size _ _ _ _ hr, B8_size]; decide)
  exact wpList_store_mid hgd 91 x y ho b 8 (B8 zrow) hx hy ht info48 (B8_one _)
    (h _ h3 (grown_cells _ 8 w (grown_refl w _)) (h3.cell 72 (WK_held _ _ _ _ rfl)) (h3.free 72))

set_option maxRecDepth 100000 in
set_option maxHeartbeats 1000000 in
theorem turn_any (s : Eight) (row : List UInt8) (held all : Nat) (hr : row.length = 64) (w : World) (b : Nat)
    (hb : Lies w b (WK s row held all) 94) (hg : Cubes w) :
    Calls Tryz.prog 63 #[.pointer (some ⟨b, 0, none⟩)] w fun e w' => e = .returned (.tuple #[]) ∧ Lies w' b (WK (mix s row) zrow 0 all) 94 ∧ w.grownBy w' (some b) := by
  have HB := Lib.hid hb
  have HG := Lib.hid hg
  clear hb hg
  go_enter Tryz.func63, Tryz.ntmps63
  go_wp2_with fail
  go_still_tail 7, (by kernel_rfl)
  refine wpStill_load_mid rfl 91 _ rfl b 8 rfl (B8 row).toList _ (WK_range HB.out) Tryz.underlying91 rfl (by rw [Array.length_toList, B8_size, hr]; kernel_rfl) ?_
  refine wpStill_nil ?_
  change wpList _ _ _ _ _ w.drew
  go_wp2_with fail
  refine (mix_any s row hr w.drew b _ 94 HB.out HG.out).mono ?_
  rintro e w1 ⟨rfl, h1, h2⟩
  have H1 := Lib.hid h1
  have H2 := Lib.hid h2
  clear h1 h2
  go_wp2_with (refine wpList_store_WK rfl _ _ rfl b rfl rfl (mix s row) row held all hr H1.out ?_; intro w2 HA HB' hc hf)
  go_end0
  have h4 := HA.out.set 72 (.int .i64 (0 : Nat))
  rw [WK_set_held _ _ _ _ _ rfl] at h4
  exact ⟨rfl, h4, grown_set (grown_trans (grown_trans (grown_drew (grown_refl w _)) H2.out) HB'.out) _ _⟩
end Go.Proofs.YtgempifedhiknaaGreatDoor
