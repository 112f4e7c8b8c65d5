/-
  Nodes as plain data; what two nodes are beside their kids.
-/
import Derived.Test.YtieoiklgoeclaaaGreatTc
import Derived.Deep.RegionHeld3
import Derived.Lib.Hide
namespace Go.Proofs.YtieoiklgoeclaaaGreat
open Go.RowKit

structure Nd where
  kind : Int
  num : Int
  bits : Nat
  txt : ByteArray
  kids : Int
def Nd.cells (n : Nd) : Array Value := #[.int .i64 n.kind, .int .i64 n.num, .int .u64 n.bits, .string n.txt, .int .i64 n.kids]
def partO (a b : Nd) : Int := firstNZ [cmpI a.kind b.kind, cmpI a.num b.num, ordC a.bits b.bits, cmpS a.txt b.txt]
set_option maxRecDepth 100000 in
set_option maxHeartbeats 1000000 in
theorem parts_any (a b : Nd) (w : World) : Calls Tryz.prog 38 #[.agg a.cells, .agg b.cells] w fun e w' => e = .returned (.int .i64 (partO a b)) ∧ Below w.heap.size w w' := by
  obtain ⟨k1, n1, b1, t1, d1⟩ := a
  obtain ⟨k2, n2, b2, t2, d2⟩ := b
  obtain ⟨r, hr⟩ : ∃ r, r = partO ⟨k1, n1, b1, t1, d1⟩ ⟨k2, n2, b2, t2, d2⟩ := ⟨_, rfl⟩
  rw [← hr]
  unfold partO at hr
  simp only at hr
  obtain ⟨o1, ho1⟩ : ∃ o, o = cmpI k1 k2 := ⟨_, rfl⟩
  obtain ⟨o2, ho2⟩ : ∃ o, o = cmpI n1 n2 := ⟨_, rfl⟩
  obtain ⟨o3, ho3⟩ : ∃ o, o = ordC b1 b2 := ⟨_, rfl⟩
  obtain ⟨o4, ho4⟩ : ∃ o, o = cmpS t1 t2 := ⟨_, rfl⟩
  rw [← ho1, ← ho2, ← ho3, ← ho4] at hr
  have q1 : ∀ V, Calls Tryz.prog 58 #[.int .i64 k1, .int .i64 k2] V fun e w' => e = .returned (.int .i64 o1) ∧ V = w' := fun V => by rw [ho1]; exact compareK_any V k1 k2
  have q2 : ∀ V, Calls Tryz.prog 59 #[.int .i64 n1, .int .i64 n2] V fun e w' => e = .returned (.int .i64 o2) ∧ V = w' := fun V => by rw [ho2]; exact compareI_any V n1 n2
  have q3 : ∀ V, Calls Tryz.prog 60 #[.int .u64 b1, .int .u64 b2] V fun e w' => e = .returned (.int .i64 o3) ∧ Below V.heap.size V w' := fun V => by rw [ho3]; exact order_any V b1 b2
  have q4 : ∀ V, Calls Tryz.prog 61 #[.string t1, .string t2] V fun e w' => e = .returned (.int .i64 o4) ∧ V = w' := fun V => by rw [ho4]; exact compareS_any V t1 t2
  have q5 : ∀ (V : World), Calls Tryz.prog 57 #[.slice (some ⟨V.heap.size, 0, none⟩) 4 4] (V.alloc (.cells #[.int .i64 o1, .int .i64 o2, .int .i64 o3, .int .i64 o4] 3)) fun e w' => e = .returned (.int .i64 r) ∧ V.alloc (.cells #[.int .i64 o1, .int .i64 o2, .int .i64 o3, .int .i64 o4] 3) = w' := fun V => by
    have := or_any [o1, o2, o3, o4] V.heap.size 4 (V.alloc (.cells #[.int .i64 o1, .int .i64 o2, .int .i64 o3, .int .i64 o4] 3)) (fun j hj => by
      have : j = 0 ∨ j = 1 ∨ j = 2 ∨ j = 3 := by simp at hj; omega
      rcases this with rfl | rfl | rfl | rfl <;> simp [go_sem]) (by simp)
    rw [hr]; exact this
  have Q := Lib.hid (And.intro q1 (And.intro q2 (And.intro q3 (And.intro q4 q5))))
  clear q1 q2 q3 q4 q5 hr ho1 ho2 ho3 ho4
  unfold Nd.cells
  go_enter Tryz.func38, Tryz.ntmps38
  go_upto_region 1 with fail
  have hA : (w.alloc (.cells #[.int .i64 k1, .int .i64 n1, .int .u64 (b1 : Int), .string t1, .int .i64 d1] 36) |>.alloc (.cells #[.int .i64 k2, .int .i64 n2, .int .u64 (b2 : Int), .string t2, .int .i64 d2] 36)).heap[w.heap.size]? = some (.cells #[.int .i64 k1, .int .i64 n1, .int .u64 (b1 : Int), .string t1, .int .i64 d1] 36 (0, 0)) := (Below.heap_alloc _ _ _ (by simp)).trans (heap_alloc_new w _)
  have hB : (w.alloc (.cells #[.int .i64 k1, .int .i64 n1, .int .u64 (b1 : Int), .string t1, .int .i64 d1] 36) |>.alloc (.cells #[.int .i64 k2, .int .i64 n2, .int .u64 (b2 : Int), .string t2, .int .i64 d2] 36)).heap[w.heap.size + 1]? = some (.cells #[.int .i64 k2, .int .i64 n2, .int .u64 (b2 : Int), .string t2, .int .i64 d2] 36 (0, 0)) := by
    have := heap_alloc_new (w.alloc (.cells #[.int .i64 k1, .int .i64 n1, .int .u64 (b1 : Int), .string t1, .int .i64 d1] 36)) (.cells #[.int .i64 k2, .int .i64 n2, .int .u64 (b2 : Int), .string t2, .int .i64 d2] 36)
    simpa using this
  have hb0 : Below w.heap.size w (w.alloc (.cells #[.int .i64 k1, .int .i64 n1, .int .u64 (b1 : Int), .string t1, .int .i64 d1] 36) |>.alloc (.cells #[.int .i64 k2, .int .i64 n2, .int .u64 (b2 : Int), .string t2, .int .i64 d2] 36)) := ((Below.refl _ _).alloc (Nat.le_refl _) _).alloc (by simp) _
  have hz : w.heap.size + 1 < (w.alloc (.cells #[.int .i64 k1, .int .i64 n1, .int .u64 (b1 : Int), .string t1, .int .i64 d1] 36) |>.alloc (.cells #[.int .i64 k2, .int .i64 n2, .int .u64 (b2 : Int), .string t2, .int .i64 d2] 36)).heap.size := by simp
  generalize (w.alloc (.cells #[.int .i64 k1, .int .i64 n1, .int .u64 (b1 : Int), .string t1, .int .i64 d1] 36) |>.alloc (.cells #[.int .i64 k2, .int .i64 n2, .int .u64 (b2 : Int), .string t2, .int .i64 d2] 36)) = W0 at hA hB hb0 hz ⊢
  have hS : ∀ V, Below W0.heap.size W0 V → V.cell? ⟨w.heap.size, 0, none⟩ = some (.int .i64 k1) ∧ V.cell? ⟨w.heap.size, 1, none⟩ = some (.int .i64 n1) ∧ V.cell? ⟨w.heap.size, 2, none⟩ = some (.int .u64 (b1 : Int)) ∧ V.cell? ⟨w.heap.size, 3, none⟩ = some (.string t1) ∧ V.cell? ⟨w.heap.size + 1, 0, none⟩ = some (.int .i64 k2) ∧ V.cell? ⟨w.heap.size + 1, 1, none⟩ = some (.int .i64 n2) ∧ V.cell? ⟨w.heap.size + 1, 2, none⟩ = some (.int .u64 (b2 : Int)) ∧ V.cell? ⟨w.heap.size + 1, 3, none⟩ = some (.string t2) := fun V hV => by
    have h1 := (hV.block w.heap.size (by omega)).trans hA
    have h2 := (hV.block (w.heap.size + 1) hz).trans hB
    exact ⟨cell_of_row V _ 0 _ _ _ h1, cell_of_row V _ 1 _ _ _ h1, cell_of_row V _ 2 _ _ _ h1, cell_of_row V _ 3 _ _ _ h1, cell_of_row V _ 0 _ _ _ h2, cell_of_row V _ 1 _ _ _ h2, cell_of_row V _ 2 _ _ _ h2, cell_of_row V _ 3 _ _ _ h2⟩
  have d0 : Below W0.heap.size W0 W0.drew := (Below.refl _ _).drew
  have s0 := hS _ d0
  have HS := Lib.hid hS
  have HB0 := Lib.hid hb0
  have HGA := Lib.hid (show ∀ (V : World) (o : Obj), Below W0.heap.size W0 V → Below W0.heap.size W0 (V.alloc o) from fun V o h => h.alloc h.size o)
  clear hA hB hb0 hz hS
  go_region_held3 (fun V => V.cell? ⟨w.heap.size, 0, none⟩ = some (.int .i64 k1) ∧ V.cell? ⟨w.heap.size, 1, none⟩ = some (.int .i64 n1) ∧ V.cell? ⟨w.heap.size, 2, none⟩ = some (.int .u64 (b1 : Int)) ∧ V.cell? ⟨w.heap.size, 3, none⟩ = some (.string t1) ∧ V.cell? ⟨w.heap.size + 1, 0, none⟩ = some (.int .i64 k2) ∧ V.cell? ⟨w.heap.size + 1, 1, none⟩ = some (.int .i64 n2) ∧ V.cell? ⟨w.heap.size + 1, 2, none⟩ = some (.int .u64 (b2 : Int)) ∧ V.cell? ⟨w.heap.size + 1, 3, none⟩ = some (.string t2))
    (first | exact s0 | exact HS.out _ (by assumption) | exact HS.out _ (HGA.out _ _ (by assumption)))
    (first
      | (with_reducible refine (Q.out.1 _).mono ?_; rintro e w1 ⟨rfl, rfl⟩)
      | (with_reducible refine (Q.out.2.1 _).mono ?_; rintro e w1 ⟨rfl, rfl⟩)
      | (with_reducible refine (Q.out.2.2.1 _).mono ?_; rintro e w3 ⟨rfl, hb3'⟩; have hb3 : Below W0.heap.size W0 w3 := d0.trans (hb3'.mono d0.size))
      | (with_reducible refine (Q.out.2.2.2.1 _).mono ?_; rintro e w1 ⟨rfl, rfl⟩)
      | (with_reducible refine (Q.out.2.2.2.2 _).mono ?_; rintro e w1 ⟨rfl, rfl⟩; have hb5 : Below W0.heap.size W0 (w3.alloc (.cells #[.int .i64 o1, .int .i64 o2, .int .i64 o3, .int .i64 o4] 3)) := hb3.alloc hb3.size _))
  go_wp2_with fail
  go_ret
  exact ⟨rfl, HB0.out.trans (hb5.mono HB0.out.size)⟩
end Go.Proofs.YtieoiklgoeclaaaGreat
