/-
  Known: the published numbers are those that are found.
-/
import Derived.Test.YtccfdobogbiomaaDoorFound
import Derived.Test.YtccfdobogbiomaaDoorRefNums
import Derived.Deep.QuietTactic
import Derived.BigQuiet
import Derived.IntWalk
namespace Go.Proofs.YtccfdobogbiomaaDoor
open Go.RowKit Sha

set_option maxRecDepth 100000 in
theorem found_start : roots false 8 = Sha.start.list.map BitVec.toNat := by decide +kernel
set_option maxRecDepth 100000 in
theorem found_cubes : roots true 64 = cubes.map BitVec.toNat := by decide +kernel
theorem N32_bits (l : List (BitVec 32)) (j : Nat) (hj : j < l.length) : (N32 (l.map BitVec.toNat))[j]? = some (.int .u32 (l.getD j 0).toNat) := by
  simp [N32, hj]

set_option maxRecDepth 100000 in
set_option maxHeartbeats 1000000 in
theorem known_any (w : World) : Calls Tryd.prog 18 #[] w fun e w' => e = .returned (.bool true) ∧ Below w.heap.size w w' := by
  go_enter Tryd.func18, Tryd.ntmps18
  go_wp2_with fail
  refine (numbers_any w).mono ?_
  rintro e w2 ⟨rfl, hw2⟩
  have n1 : Nums w2 w.heap.size 0 Sha.start.list := by
    rw [hw2]; exact lies_nums ((Lies.new w _ _).alloc _)
  have n2 : Nums w2 (w.heap.size + 1) 0 cubes := by
    rw [hw2]
    have := Lies.new (w.alloc (.cells (B32 Sha.start.list) 45)) (B32 cubes) 45
    rw [World.size_alloc] at this
    exact lies_nums this
  have z2 : w2.heap.size = w.heap.size + 1 + 1 := by rw [hw2]; simp
  have hb2 : Below w.heap.size w w2 := by rw [hw2]; exact (((Below.refl _ w).alloc (Nat.le_refl _) _).alloc (by simp) _)
  have main := found_any w2
  have HM := Lib.hid main
  clear main hw2
  obtain ⟨gh, hgh⟩ : ∃ gh, gh = w.heap.size := ⟨_, rfl⟩
  obtain ⟨gk, hgk⟩ : ∃ gk, gk = w.heap.size + 1 := ⟨_, rfl⟩
  rw [← hgk] at n2 ⊢
  rw [← hgh] at n1 ⊢
  have l1 : gh < w2.heap.size := by omega
  have l2 : gk < w2.heap.size := by omega
  have HB2 := Lib.hid hb2
  have N1 := Lib.hid n1
  have N2 := Lib.hid n2
  have L1 := Lib.hid l1
  have L2 := Lib.hid l2
  clear hb2 n1 n2 l1 l2 z2 hgh hgk
  go_wp2_with fail
  refine HM.out.mono ?_
  rintro e w3 ⟨h, k, W, rfl, hb3, ht⟩
  clear HM
  rw [found_start, found_cubes] at ht
  have n1 : ∀ j, j < 8 → w3.cell? ⟨gh, j, none⟩ = some (.int .u32 (Sha.start.list.getD j 0).toNat) := fun j hj => by
    have := N1.out j hj
    rw [Nat.zero_add] at this
    exact (hb3.cell L1.out).trans this
  have n2 : ∀ j, j < 64 → w3.cell? ⟨gk, j, none⟩ = some (.int .u32 (cubes.getD j 0).toNat) := fun j hj => by
    have := N2.out j hj
    rw [Nat.zero_add] at this
    exact (hb3.cell L2.out).trans this
  obtain ⟨A1, c1, e1, hA1⟩ := ht.1.shape
  obtain ⟨A2, c2, e2, hA2⟩ := ht.2.1.shape
  have z1 : (N32 (Sha.start.list.map BitVec.toNat)).length = 8 := by rw [N32_length]; rfl
  have z2 : (N32 (cubes.map BitVec.toNat)).length = 64 := by rw [N32_length, List.length_map]; rfl
  rw [z1] at e1 hA1
  rw [z2] at e2 hA2
  obtain ⟨g1, rfl⟩ := hA1 (by omega)
  obtain ⟨g2, rfl⟩ := hA2 (by omega)
  subst e1
  subst e2
  have m1 : ∀ j, j < 8 → w3.cell? ⟨g1, j, none⟩ = some (.int .u32 (Sha.start.list.getD j 0).toNat) := fun j hj => ht.1.cell (N32_bits _ j hj)
  have m2 : ∀ j, j < 64 → w3.cell? ⟨g2, j, none⟩ = some (.int .u32 (cubes.getD j 0).toNat) := fun j hj => ht.2.1.cell (N32_bits _ j hj)
  have hb : Below w.heap.size w w3 := HB2.out.trans (hb3.mono HB2.out.size)
  have HB := Lib.hid hb
  have N1 := Lib.hid n1
  have N2 := Lib.hid n2
  have M1 := Lib.hid m1
  have M2 := Lib.hid m2
  clear hb n1 n2 m1 m2 ht hA1 hA2 z1 z2 HB2 hb3 L1 L2
  go_wp2_with fail
  go_loopw [5, 6] (fun s i wr => ∃ j q : Nat, j ≤ 64 ∧ i = .int .i64 j ∧ s = .bool true ∧ wr = w3.drewN q) (fun _ i _ => 64 - (intOf i).toNat)
  case atStart => exact ⟨0, 0, by omega, rfl, rfl, rfl⟩
  case round =>
    obtain ⟨j, q, hj, rfl, rfl, rfl⟩ := hrel
    by_cases hlt : j < 64
    · have i1 : (j : Int) < 64 := by omega
      have c1 : (w3.drewN q).cell? ⟨gk, j, none⟩ = some (.int .u32 (cubes.getD j 0).toNat) := N2.out j hlt
      have c2 : (w3.drewN q).cell? ⟨g2, j, none⟩ = some (.int .u32 (cubes.getD j 0).toNat) := M2.out j hlt
      have f0 : (0 : Int) ≤ (j : Int) := by omega
      generalize (cubes.getD j 0).toNat = x at c1 c2
      by_cases h7 : j < 8
      · have c3 : (w3.drewN q).cell? ⟨gh, j, none⟩ = some (.int .u32 (Sha.start.list.getD j 0).toNat) := N1.out j h7
        have c4 : (w3.drewN q).cell? ⟨g1, j, none⟩ = some (.int .u32 (Sha.start.list.getD j 0).toNat) := M1.out j h7
        generalize (Sha.start.list.getD j 0).toNat = y at c3 c4
        have i2 : (j : Int) < 8 := by omega
        have i4 : decide (7 < j) = false := by simp; omega
        have i3 : decide ((7 : Int) < (j : Int)) = false := by simp; omega
        obtain ⟨w2, hw2⟩ : ∃ w2, w2 = w3.drewN q := ⟨_, rfl⟩
        rw [← hw2] at c1 c2 c3 c4 ⊢
        have HW2 := Lib.hid hw2
        clear hw2
        go_wp2_with fail
        go_quiet (fail)
        go_wp2_with fail
        refine ⟨⟨j + 1, q + nq, by omega, rfl, rfl, by rw [HW2.out, World.drewN_drewN]⟩, ?_⟩
        simp [intOf]; omega
      · have i4 : decide (7 < j) = true := by simp; omega
        have i3 : decide ((7 : Int) < (j : Int)) = true := by simp; omega
        have i5 : (7 : Int) < (j : Int) := by omega
        obtain ⟨w2, hw2⟩ : ∃ w2, w2 = w3.drewN q := ⟨_, rfl⟩
        rw [← hw2] at c1 c2 ⊢
        have HW2 := Lib.hid hw2
        clear hw2
        go_wp2_with fail
        go_quiet (fail)
        go_wp2_with fail
        refine ⟨⟨j + 1, q + nq, by omega, rfl, rfl, by rw [HW2.out, World.drewN_drewN]⟩, ?_⟩
        simp [intOf]; omega
    · have hj2 : j = 64 := by omega
      subst hj2
      have hb : Below w.heap.size w (w3.drewN q) := ⟨HB.out.os, HB.out.tape, HB.out.output, HB.out.size, HB.out.block⟩
      have HX := Lib.hid hb
      clear hb
      go_wp2_with fail
      go_ret
      exact ⟨rfl, HX.out⟩
end Go.Proofs.YtccfdobogbiomaaDoor
