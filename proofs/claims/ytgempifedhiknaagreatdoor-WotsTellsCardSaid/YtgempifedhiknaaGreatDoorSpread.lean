/-
  spread: the 64 numbers of a row of 64 bytes.
-/
import Derived.Test.YtgempifedhiknaaGreatDoorLeaf
import Derived.Test.YtgempifedhiknaaGreatDoorMem
import Derived.StillTailTactics
import Derived.BigQuiet
import Derived.Deep.QuietTactic
import Derived.LoopTactic
import Derived.IntWalk
namespace Go.Proofs.YtgempifedhiknaaGreatDoor
set_option maxRecDepth 100000
open Go.RowKit Sha

/-- The row of numbers, the first k of them known. -/
def zeros64 : Array Value := B32 (List.replicate 64 0)
def padTo (l : List (BitVec 32)) : List (BitVec 32) := l ++ List.replicate (64 - l.length) 0
theorem padTo_set (l : List (BitVec 32)) (x : BitVec 32) (h : l.length < 64) : (padTo l).set l.length x = padTo (l ++ [x]) := by
  unfold padTo
  obtain ⟨m, hm⟩ : ∃ m, 64 - l.length = m + 1 := ⟨63 - l.length, by omega⟩
  rw [List.set_append_right _ _ (Nat.le_refl _), Nat.sub_self, hm, List.replicate_succ, List.set_cons_zero]
  have : 64 - (l ++ [x]).length = m := by simp; omega
  rw [this]; simp
theorem padTo_get (l : List (BitVec 32)) (i : Nat) (h : i < l.length) : (padTo l).getD i 0 = l.getD i 0 := by
  unfold padTo; simp [List.getElem?_append_left h]
theorem padTo_length (l : List (BitVec 32)) (h : l.length ≤ 64) : (padTo l).length = 64 := by unfold padTo; simp; omega
theorem words_length (r : List UInt8) (n : Nat) : (words r n).length = n := by simp [words]
theorem words_succ (r : List UInt8) (n : Nat) : words r (n + 1) = words r n ++ [word (r.getD (4 * n) 0) (r.getD (4 * n + 1) 0) (r.getD (4 * n + 2) 0) (r.getD (4 * n + 3) 0)] := by
  simp [words, List.range_succ]
theorem sched_length (m : List (BitVec 32)) (n : Nat) : (sched m n).length = m.length + n := by
  induction n with
  | zero => rfl
  | succ n ih => simp [sched, ih]; omega

/-- The memory of the call: the row, the result's place, the numbers. -/
def At (w : World) (r : List UInt8) (l : List (BitVec 32)) (wr : World) : Prop :=
  Lies wr w.heap.size (B8 r) 91 ∧ Lies wr (w.heap.size + 1) zeros64 280 ∧ Lies wr (w.heap.size + 1 + 1) (B32 (padTo l)) 280 ∧ Below w.heap.size w wr

theorem At.store {w : World} {r : List UInt8} {l : List (BitVec 32)} {wr : World} (h : At w r l wr) (hl : l.length < 64) (k : Nat) (hk : k = l.length) (x : BitVec 32) :
    At w r (l ++ [x]) (wr.setCell ⟨w.heap.size + 1 + 1, k, none⟩ (.int .u32 x.toNat)) := by
  obtain ⟨h1, h2, h3, h4⟩ := h
  subst hk
  refine ⟨h1.other _ _ (by simp; omega), h2.other _ _ (by simp), ?_, h4.setCell (by simp; omega) _⟩
  have := h3.set l.length (.int .u32 x.toNat)
  rwa [B32_set, padTo_set _ _ hl] at this
theorem At.drew {w : World} {r : List UInt8} {l : List (BitVec 32)} {wr : World} (h : At w r l wr) : At w r l wr.drew := ⟨h.1, h.2.1, h.2.2.1, h.2.2.2.drew⟩
theorem At.drewN {w : World} {r : List UInt8} {l : List (BitVec 32)} {wr : World} (h : At w r l wr) (q : Nat) : At w r l (wr.drewN q) := ⟨h.1, h.2.1, h.2.2.1, below_drewN h.2.2.2 q⟩
theorem At.row {w : World} {r : List UInt8} {l : List (BitVec 32)} {wr : World} (h : At w r l wr) (hr : r.length = 64) (j : Nat) (hj : j < 64) : wr.cell? ⟨w.heap.size, j, none⟩ = some (.int .u8 (r.getD j 0).toNat) :=
  h.1.cell j (B8_get r j (by omega))
theorem At.num {w : World} {r : List UInt8} {l : List (BitVec 32)} {wr : World} (h : At w r l wr) (j : Nat) (hj : j < l.length) (hl : l.length ≤ 64) : wr.cell? ⟨w.heap.size + 1 + 1, j, none⟩ = some (.int .u32 (l.getD j 0).toNat) := by
  rw [← padTo_get l j hj]
  exact h.2.2.1.cell j (B32_get _ j (by rw [padTo_length l hl]; omega))
theorem At.any {w : World} {r : List UInt8} {l : List (BitVec 32)} {wr : World} (h : At w r l wr) (j : Nat) (hj : j < 64) (hl : l.length ≤ 64) : ∃ v, wr.cell? ⟨w.heap.size + 1 + 1, j, none⟩ = some v :=
  ⟨_, h.2.2.1.cell j (B32_get _ j (by rw [padTo_length l hl]; omega))⟩

theorem At.start (w : World) (r : List UInt8) : At w r (words r 0) (((w.alloc (.cells (B8 r) 91)).alloc (.cells zeros64 280)).alloc (.cells zeros64 280)) := by
  refine ⟨((Lies.new w _ _).alloc _).alloc _, ?_, ?_, (((Below.refl _ _).alloc (Nat.le_refl _) _).alloc (by simp) _).alloc (by simp; omega) _⟩
  · have := (Lies.new (w.alloc (.cells (B8 r) 91)) zeros64 280).alloc (.cells zeros64 280)
    simpa using this
  · have := Lies.new ((w.alloc (.cells (B8 r) 91)).alloc (.cells zeros64 280)) zeros64 280
    simpa [words, padTo, zeros64] using this

set_option maxHeartbeats 1000000 in
theorem spread_any (r : List UInt8) (hr : r.length = 64) (w : World) :
    Calls Tryz.prog 126 #[.agg (B8 r)] w fun e w' => e = .returned (.agg (B32 (wide r))) ∧ Below w.heap.size w w' := by
  have hs := B8_size r
  have hstart := At.start w r
  have HS := Lib.hid hstart; clear hstart
  go_enter Tryz.func126, Tryz.ntmps126
  go_wp2
  go_loopw [10] (fun i wr => ∃ k : Nat, k ≤ 16 ∧ i = .int .i64 k ∧ At w r (words r k) wr) (fun i _ => 16 - (intOf i).toNat)
  case atStart => exact ⟨0, by omega, rfl, HS.out⟩
  case round =>
    obtain ⟨k, hk, rfl, hat⟩ := hrel
    have HAT := Lib.hid hat; clear hat
    by_cases hlt : k < 16
    · have c0 := HAT.out.row hr (4 * k) (by omega)
      have c1 := HAT.out.row hr (4 * k + 1) (by omega)
      have c2 := HAT.out.row hr (4 * k + 2) (by omega)
      have c3 := HAT.out.row hr (4 * k + 3) (by omega)
      obtain ⟨v, cv⟩ := HAT.out.any k (by omega) (by rw [words_length]; omega)
      have fv : wr.frozen? ⟨w.heap.size + 1 + 1, k, none⟩ = false := HAT.out.2.2.1.free k
      have ho := (HAT.out.store (by rw [words_length]; omega) k (words_length r k).symm (word (r.getD (4 * k) 0) (r.getD (4 * k + 1) 0) (r.getD (4 * k + 2) 0) (r.getD (4 * k + 3) 0))).drew
      rw [← words_succ] at ho
      generalize r.getD (4 * k) 0 = b0 at c0 ho
      generalize r.getD (4 * k + 1) 0 = b1 at c1 ho
      generalize r.getD (4 * k + 2) 0 = b2 at c2 ho
      generalize r.getD (4 * k + 3) 0 = b3 at c3 ho
      have HO := Lib.hid ho; clear ho
      have or0 := or4 b0 b1 b2 b3
      have w0 : IntKind.i64.wrap (4 * (k : Int)) = 4 * (k : Int) := IntWalk.i64_in _ (by omega)
      have w1 : IntKind.i64.wrap (4 * (k : Int) + 1) = 4 * (k : Int) + 1 := IntWalk.i64_in _ (by omega)
      have w2 : IntKind.i64.wrap (4 * (k : Int) + 2) = 4 * (k : Int) + 2 := IntWalk.i64_in _ (by omega)
      have w3 : IntKind.i64.wrap (4 * (k : Int) + 3) = 4 * (k : Int) + 3 := IntWalk.i64_in _ (by omega)
      have l0 : (0 : Int) ≤ 4 * (k : Int) := by omega
      have l1 : (0 : Int) ≤ 4 * (k : Int) + 1 := by omega
      have l2 : (0 : Int) ≤ 4 * (k : Int) + 2 := by omega
      have l3 : (0 : Int) ≤ 4 * (k : Int) + 3 := by omega
      have m0 : 4 * (k : Int) < 64 := by omega
      have m1 : 4 * (k : Int) + 1 < 64 := by omega
      have m2 : 4 * (k : Int) + 2 < 64 := by omega
      have m3 : 4 * (k : Int) + 3 < 64 := by omega
      have m4 : (k : Int) < 64 := by omega
      have t0 : (4 * (k : Int)).toNat = 4 * k := by omega
      have t1 : (4 * (k : Int) + 1).toNat = 4 * k + 1 := by omega
      have t2 : (4 * (k : Int) + 2).toNat = 4 * k + 2 := by omega
      have t3 : (4 * (k : Int) + 3).toNat = 4 * k + 3 := by omega
      go_wp2_with fail
      go_still_tail 31, (by kernel_rfl)
      change wpList _ _ _ _ _ wr.drew
      clear w0 w1 w2 w3 l0 l1 l2 l3 m0 m1 m2 m3 m4 t0 t1 t2 t3
      go_wp2
      go_roundw
      case rel => exact ⟨k + 1, by omega, by go_num, HO.out⟩
      case measure => simp [intOf]; omega
    · have hat : At w r (words r 16) wr := by
        obtain rfl : k = 16 := by omega
        exact HAT.out
      have hd : decide ((k : Int) < 16) = false := by simp; omega
      clear HAT HS
      have HAT := Lib.hid hat; clear hat
      go_wp2_with fail
      clear hlt hk
      go_loopw [5] (fun i wr => ∃ j : Nat, 16 ≤ j ∧ j ≤ 64 ∧ i = .int .i64 j ∧ At w r (sched (words r 16) (j - 16)) wr) (fun i _ => 64 - (intOf i).toNat)
      case atStart => exact ⟨16, by omega, by omega, rfl, HAT.out⟩
      case round =>
        obtain ⟨j, hj, hj2, rfl, hat⟩ := hrel
        have HAT := Lib.hid hat; clear hat
        by_cases hlt : j < 64
        · have hL : (sched (words r 16) (j - 16)).length = j := by rw [sched_length, words_length]; omega
          have cx := HAT.out.num (j - 15) (by omega) (by omega)
          have cy := HAT.out.num (j - 2) (by omega) (by omega)
          have ca := HAT.out.num (j - 16) (by omega) (by omega)
          have cb := HAT.out.num (j - 7) (by omega) (by omega)
          obtain ⟨v, cv⟩ := HAT.out.any j (by omega) (by omega)
          have fv : wr.frozen? ⟨w.heap.size + 1 + 1, j, none⟩ = false := HAT.out.2.2.1.free j
          have ho := fun q => ((HAT.out.drewN q).store (by omega) j hL.symm (next (sched (words r 16) (j - 16)))).drew
          have hnx : next (sched (words r 16) (j - 16)) = (sched (words r 16) (j - 16)).getD (j - 16) 0 + s0 ((sched (words r 16) (j - 16)).getD (j - 15) 0) + (sched (words r 16) (j - 16)).getD (j - 7) 0 + s1 ((sched (words r 16) (j - 16)).getD (j - 2) 0) := by
            unfold next; rw [hL]
          have hsc : sched (words r 16) (j - 16) ++ [next (sched (words r 16) (j - 16))] = sched (words r 16) (j + 1 - 16) := by
            rw [show j + 1 - 16 = (j - 16) + 1 by omega]; rfl
          rw [hsc, hnx] at ho
          clear hnx hL hsc
          generalize (sched (words r 16) (j - 16)).getD (j - 15) 0 = x at cx ho
          generalize (sched (words r 16) (j - 16)).getD (j - 2) 0 = y at cy ho
          generalize (sched (words r 16) (j - 16)).getD (j - 16) 0 = a at ca ho
          generalize (sched (words r 16) (j - 16)).getD (j - 7) 0 = b at cb ho
          have r2 := sum4m a (s0 x) b (s1 y)
          generalize a + s0 x + b + s1 y = z at ho r2
          have HO := Lib.hid ho; clear ho
          have w0 : IntKind.i64.wrap ((j : Int) - 15) = (j : Int) - 15 := IntWalk.i64_in _ (by omega)
          have w1 : IntKind.i64.wrap ((j : Int) - 2) = (j : Int) - 2 := IntWalk.i64_in _ (by omega)
          have w2 : IntKind.i64.wrap ((j : Int) - 16) = (j : Int) - 16 := IntWalk.i64_in _ (by omega)
          have w3 : IntKind.i64.wrap ((j : Int) - 7) = (j : Int) - 7 := IntWalk.i64_in _ (by omega)
          have l0 : (0 : Int) ≤ (j : Int) - 15 := by omega
          have l1 : (0 : Int) ≤ (j : Int) - 2 := by omega
          have l2 : (0 : Int) ≤ (j : Int) - 16 := by omega
          have l3 : (0 : Int) ≤ (j : Int) - 7 := by omega
          have m0 : (j : Int) - 15 < 64 := by omega
          have m1 : (j : Int) - 2 < 64 := by omega
          have m2 : (j : Int) - 16 < 64 := by omega
          have m3 : (j : Int) - 7 < 64 := by omega
          have m4 : (j : Int) < 64 := by omega
          have t0 : ((j : Int) - 15).toNat = j - 15 := by omega
          have t1 : ((j : Int) - 2).toNat = j - 2 := by omega
          have t2 : ((j : Int) - 16).toNat = j - 16 := by omega
          have t3 : ((j : Int) - 7).toNat = j - 7 := by omega
          go_wp2_with fail
          go_quiet (fail)
          have r0 := s0_is x
          have r1 := s1_is y
          go_wp2_with (go_at_call 127; refine (rot_any _ _ (by decide) (by decide) _).mono ?_; rintro e w' ⟨rfl, rfl⟩)
          have ca2 : (wr.drewN nq).cell? ⟨w.heap.size + 1 + 1, j - 16, none⟩ = some (.int .u32 a.toNat) := ca
          have cb2 : (wr.drewN nq).cell? ⟨w.heap.size + 1 + 1, j - 7, none⟩ = some (.int .u32 b.toNat) := cb
          have cv2 : (wr.drewN nq).cell? ⟨w.heap.size + 1 + 1, j, none⟩ = some v := cv
          have fv2 : (wr.drewN nq).frozen? ⟨w.heap.size + 1 + 1, j, none⟩ = false := fv
          have HO2 := Lib.hid (HO.out nq)
          clear HO HAT ca cb cv fv cx cy
          generalize wr.drewN nq = wq at ca2 cb2 cv2 fv2 HO2 ⊢
          have n2 : (16 : Int) ≤ (j : Int) := by omega
          have n3 : (7 : Int) ≤ (j : Int) := by omega
          have n4 : 7 ≤ j := by omega
          have n5 : (j : Int) < 64 + 16 := by omega
          have n6 : (j : Int) < 64 + 7 := by omega
          have n7 : (j : Int) < 80 := by omega
          have n8 : (j : Int) < 71 := by omega
          have n9 : j < 80 := by omega
          have n10 : j < 71 := by omega
          go_still_tail 15, (by kernel_rfl)
          change wpList _ _ _ _ _ wq.drew
          clear w0 w1 w2 w3 l0 l1 l2 l3 m0 m1 m2 m3 m4 t0 t1 t2 t3
          go_wp2
          go_roundw
          case rel => exact ⟨j + 1, by omega, by omega, by go_num, HO2.out⟩
          case measure => simp [intOf]; omega
        · obtain rfl : j = 64 := by omega
          have hat := HAT.out
          rw [show sched (words r 16) (64 - 16) = wide r by rfl] at hat
          have hwl : (wide r).length = 64 := by rw [wide, sched_length, words_length]
          have hpad : padTo (wide r) = wide r := by unfold padTo; rw [hwl]; simp
          obtain ⟨h1, h2, h3, h4⟩ := hat
          rw [hpad] at h3
          have hz : (B32 (wide r)).size = 64 := by rw [B32_size, hwl]
          clear HAT hj hj2 hlt hpad hwl h1 hs hr
          go_wp2_with (first | (refine wpList_load_row rfl 280 _ rfl (w.heap.size + 1 + 1) rfl 280 _ (0, 0) _ h3 Tryz.underlying280 rfl (by rw [hz]; kernel_rfl) ?_) | (refine wpList_store_row rfl 280 _ _ rfl (w.heap.size + 1) (B32 (wide r)) rfl rfl 280 _ h2 (by rw [hz]; kernel_rfl) (by rw [hz]; rfl) (B32_one _) ?_))
          refine bodyPost_ret (v := .agg (B32 (wide r))) (results_cell_row (p := 2) (ty := 280) (by kernel_rfl) _ _ (w.heap.size + 1) 280 (B32 (wide r)) (0, 0) _ rfl (h2.setRow _) Tryz.underlying280 rfl (by rw [hz]; kernel_rfl)) rfl ⟨rfl, below_setRow h4 _ _ (by omega)⟩
end Go.Proofs.YtgempifedhiknaaGreatDoor
