/-
  What is told is the same as itself.
-/
import Derived.Test.YtjbjagdpemnhiaaGreatTells
import Derived.Test.YtjbjagdpemnhiaaGreatWants
import Derived.ChangeKeysEq
namespace Go.Proofs.YtjbjagdpemnhiaaGreat
open Go.RowKit

theorem plain5 : Tryz.prog.plainKey 5 = true := by kernel_rfl
theorem eqItems_same (l : List UInt8) (d : Nat) (w : World) : ∀ is : List Nat, (∀ j, j ∈ is → j < l.length) → (Op.eqItems (d + 1) 5 1 (B8 l) (B8 l) is).run Tryz.prog w = .ok true w
  | [], _ => by simp [Op.eqItems]
  | j :: is, h => by
    have hp := run_part_plain (P := Tryz.prog) w plain5 (B8_get l j (h j (by simp)))
    have ih := eqItems_same l d w is (fun i hi => h i (by simp [hi]))
    simp only [Op.eqItems, Sem.run_bind, Nat.mul_one, hp, Result.andThen_ok, run_equalIn_int w d 5 .u8 .u8 _ _ Tryz.underlying5, beq_self_eq_true, Bool.not_true, Bool.false_eq_true, if_false, ih]
theorem equal_same (l : List UInt8) (hl : l.length = 32) (w : World) : (Op.equalIn 9999 25 (.agg (B8 l)) (.agg (B8 l))).run Tryz.prog w = .ok true w := by
  obtain ⟨i0, hi0, _⟩ := info_parts info5
  have := run_equalIn_array (P := Tryz.prog) w 9998 (B8 l) (B8 l) Tryz.underlying25 hi0
  rw [cells5, eqItems_same l 9997 w _ (fun j hj => by rw [hl]; simpa using hj)] at this
  exact this
theorem neq_lit (a b l e : Int) (x0 x1 x2 x3 x4 x5 x6 x7 x8 x9 x10 x11 x12 x13 x14 x15 x16 x17 x18 x19 x20 x21 x22 x23 x24 x25 x26 x27 x28 x29 x30 x31 : UInt8) (s : ByteArray) (f z : Bool) (w : World) :
    (binOp .neq 49 (.agg #[.int .i64 a, .int .u64 b, .int .u8 x0.toNat, .int .u8 x1.toNat, .int .u8 x2.toNat, .int .u8 x3.toNat, .int .u8 x4.toNat, .int .u8 x5.toNat, .int .u8 x6.toNat, .int .u8 x7.toNat, .int .u8 x8.toNat, .int .u8 x9.toNat, .int .u8 x10.toNat, .int .u8 x11.toNat, .int .u8 x12.toNat, .int .u8 x13.toNat, .int .u8 x14.toNat, .int .u8 x15.toNat, .int .u8 x16.toNat, .int .u8 x17.toNat, .int .u8 x18.toNat, .int .u8 x19.toNat, .int .u8 x20.toNat, .int .u8 x21.toNat, .int .u8 x22.toNat, .int .u8 x23.toNat, .int .u8 x24.toNat, .int .u8 x25.toNat, .int .u8 x26.toNat, .int .u8 x27.toNat, .int .u8 x28.toNat, .int .u8 x29.toNat, .int .u8 x30.toNat, .int .u8 x31.toNat, .string s, .bool f, .int .i64 l, .int .i64 e, .bool z]) (.agg #[.int .i64 a, .int .u64 b, .int .u8 x0.toNat, .int .u8 x1.toNat, .int .u8 x2.toNat, .int .u8 x3.toNat, .int .u8 x4.toNat, .int .u8 x5.toNat, .int .u8 x6.toNat, .int .u8 x7.toNat, .int .u8 x8.toNat, .int .u8 x9.toNat, .int .u8 x10.toNat, .int .u8 x11.toNat, .int .u8 x12.toNat, .int .u8 x13.toNat, .int .u8 x14.toNat, .int .u8 x15.toNat, .int .u8 x16.toNat, .int .u8 x17.toNat, .int .u8 x18.toNat, .int .u8 x19.toNat, .int .u8 x20.toNat, .int .u8 x21.toNat, .int .u8 x22.toNat, .int .u8 x23.toNat, .int .u8 x24.toNat, .int .u8 x25.toNat, .int .u8 x26.toNat, .int .u8 x27.toNat, .int .u8 x28.toNat, .int .u8 x29.toNat, .int .u8 x30.toNat, .int .u8 x31.toNat, .string s, .bool f, .int .i64 l, .int .i64 e, .bool z])).run Tryz.prog w = .ok (.bool false) w := by
  have g3 := equal_same [x0, x1, x2, x3, x4, x5, x6, x7, x8, x9, x10, x11, x12, x13, x14, x15, x16, x17, x18, x19, x20, x21, x22, x23, x24, x25, x26, x27, x28, x29, x30, x31] rfl w
  simp only [B8, List.map_cons, List.map_nil] at g3
  simp [go_sem, g3]
theorem cons_of {n : Nat} {l : List UInt8} (h : l.length = n + 1) : ∃ x l', l = x :: l' ∧ l'.length = n := by
  cases l with
  | nil => simp at h
  | cons x l => exact ⟨x, l, rfl, by simpa using h⟩
set_option maxRecDepth 1000000 in
theorem sets_lit (x0 x1 x2 x3 x4 x5 x6 x7 x8 x9 x10 x11 x12 x13 x14 x15 x16 x17 x18 x19 x20 x21 x22 x23 x24 x25 x26 x27 x28 x29 x30 x31 : UInt8) : sets (toldE 0) 2 (B8 [x0, x1, x2, x3, x4, x5, x6, x7, x8, x9, x10, x11, x12, x13, x14, x15, x16, x17, x18, x19, x20, x21, x22, x23, x24, x25, x26, x27, x28, x29, x30, x31]).toList = #[.int .i64 0, .int .u64 0, .int .u8 x0.toNat, .int .u8 x1.toNat, .int .u8 x2.toNat, .int .u8 x3.toNat, .int .u8 x4.toNat, .int .u8 x5.toNat, .int .u8 x6.toNat, .int .u8 x7.toNat, .int .u8 x8.toNat, .int .u8 x9.toNat, .int .u8 x10.toNat, .int .u8 x11.toNat, .int .u8 x12.toNat, .int .u8 x13.toNat, .int .u8 x14.toNat, .int .u8 x15.toNat, .int .u8 x16.toNat, .int .u8 x17.toNat, .int .u8 x18.toNat, .int .u8 x19.toNat, .int .u8 x20.toNat, .int .u8 x21.toNat, .int .u8 x22.toNat, .int .u8 x23.toNat, .int .u8 x24.toNat, .int .u8 x25.toNat, .int .u8 x26.toNat, .int .u8 x27.toNat, .int .u8 x28.toNat, .int .u8 x29.toNat, .int .u8 x30.toNat, .int .u8 x31.toNat, .string ⟨#[]⟩, .bool false, .int .i64 0, .int .i64 0, .bool false] := by
  kernel_rfl
theorem neq_hash (l e : Int) (x0 x1 x2 x3 x4 x5 x6 x7 x8 x9 x10 x11 x12 x13 x14 x15 x16 x17 x18 x19 x20 x21 x22 x23 x24 x25 x26 x27 x28 x29 x30 x31 : UInt8) (z : Bool) (w : World) :
    (binOp .neq 49 (.agg (((sets (toldE 0) 2 (B8 [x0, x1, x2, x3, x4, x5, x6, x7, x8, x9, x10, x11, x12, x13, x14, x15, x16, x17, x18, x19, x20, x21, x22, x23, x24, x25, x26, x27, x28, x29, x30, x31]).toList).setIfInBounds 36 (.int .i64 l)).setIfInBounds 37 (.int .i64 e) |>.setIfInBounds 38 (.bool z))) (.agg (((sets (toldE 0) 2 (B8 [x0, x1, x2, x3, x4, x5, x6, x7, x8, x9, x10, x11, x12, x13, x14, x15, x16, x17, x18, x19, x20, x21, x22, x23, x24, x25, x26, x27, x28, x29, x30, x31]).toList).setIfInBounds 36 (.int .i64 l)).setIfInBounds 37 (.int .i64 e) |>.setIfInBounds 38 (.bool z)))).run Tryz.prog w = .ok (.bool false) w := by
  rw [sets_lit]
  exact neq_lit 0 0 l e x0 x1 x2 x3 x4 x5 x6 x7 x8 x9 x10 x11 x12 x13 x14 x15 x16 x17 x18 x19 x20 x21 x22 x23 x24 x25 x26 x27 x28 x29 x30 x31 ⟨#[]⟩ false z w
set_option maxRecDepth 1000000 in
set_option maxHeartbeats 4000000 in
theorem told_neq (xs : List UInt8) (st : Option Nat) (n0 n1 : Int) (w : World) :
    (binOp .neq 49 (.agg (fin (askT xs st n0 n1) xs (askS xs st n0 n1))) (.agg (fin (askT xs st n0 n1) xs (askS xs st n0 n1)))).run Tryz.prog w = .ok (.bool false) w := by
  generalize askS xs st n0 n1 = st'
  unfold askT
  by_cases h0 : n0 % 10 = 0
  · rw [if_pos h0]; exact neq_lit (numV xs st 1) 0 (leftV xs st') (errV st') 0 0 0 0 0 0 0 0 0 0 0 0 0 0 0 0 0 0 0 0 0 0 0 0 0 0 0 0 0 0 0 0 ⟨#[]⟩ false (endV xs st') w
  rw [if_neg h0]
  by_cases h0 : n0 % 10 = 1
  · rw [if_pos h0]; exact neq_lit (numV xs st 2) 0 (leftV xs st') (errV st') 0 0 0 0 0 0 0 0 0 0 0 0 0 0 0 0 0 0 0 0 0 0 0 0 0 0 0 0 0 0 0 0 ⟨#[]⟩ false (endV xs st') w
  rw [if_neg h0]
  by_cases h0 : n0 % 10 = 2
  · rw [if_pos h0]; exact neq_lit (numV xs st 4) 0 (leftV xs st') (errV st') 0 0 0 0 0 0 0 0 0 0 0 0 0 0 0 0 0 0 0 0 0 0 0 0 0 0 0 0 0 0 0 0 ⟨#[]⟩ false (endV xs st') w
  rw [if_neg h0]
  by_cases h0 : n0 % 10 = 3
  · rw [if_pos h0]; exact neq_lit 0 (numV xs st 8) (leftV xs st') (errV st') 0 0 0 0 0 0 0 0 0 0 0 0 0 0 0 0 0 0 0 0 0 0 0 0 0 0 0 0 0 0 0 0 ⟨#[]⟩ false (endV xs st') w
  rw [if_neg h0]
  by_cases h0 : n0 % 10 = 4
  · rw [if_pos h0]; exact neq_lit 0 (IntKind.u64.wrap (IntKind.i64.wrap (numV xs st 8))) (leftV xs st') (errV st') 0 0 0 0 0 0 0 0 0 0 0 0 0 0 0 0 0 0 0 0 0 0 0 0 0 0 0 0 0 0 0 0 ⟨#[]⟩ false (endV xs st') w
  rw [if_neg h0]
  by_cases h0 : n0 % 10 = 5
  · rw [if_pos h0]
    have hl := hashV_len xs st
    generalize hashV xs st = hs at hl ⊢
    obtain ⟨x0, hs0, rfl, hl0⟩ := cons_of hl
    obtain ⟨x1, hs1, rfl, hl1⟩ := cons_of hl0
    obtain ⟨x2, hs2, rfl, hl2⟩ := cons_of hl1
    obtain ⟨x3, hs3, rfl, hl3⟩ := cons_of hl2
    obtain ⟨x4, hs4, rfl, hl4⟩ := cons_of hl3
    obtain ⟨x5, hs5, rfl, hl5⟩ := cons_of hl4
    obtain ⟨x6, hs6, rfl, hl6⟩ := cons_of hl5
    obtain ⟨x7, hs7, rfl, hl7⟩ := cons_of hl6
    obtain ⟨x8, hs8, rfl, hl8⟩ := cons_of hl7
    obtain ⟨x9, hs9, rfl, hl9⟩ := cons_of hl8
    obtain ⟨x10, hs10, rfl, hl10⟩ := cons_of hl9
    obtain ⟨x11, hs11, rfl, hl11⟩ := cons_of hl10
    obtain ⟨x12, hs12, rfl, hl12⟩ := cons_of hl11
    obtain ⟨x13, hs13, rfl, hl13⟩ := cons_of hl12
    obtain ⟨x14, hs14, rfl, hl14⟩ := cons_of hl13
    obtain ⟨x15, hs15, rfl, hl15⟩ := cons_of hl14
    obtain ⟨x16, hs16, rfl, hl16⟩ := cons_of hl15
    obtain ⟨x17, hs17, rfl, hl17⟩ := cons_of hl16
    obtain ⟨x18, hs18, rfl, hl18⟩ := cons_of hl17
    obtain ⟨x19, hs19, rfl, hl19⟩ := cons_of hl18
    obtain ⟨x20, hs20, rfl, hl20⟩ := cons_of hl19
    obtain ⟨x21, hs21, rfl, hl21⟩ := cons_of hl20
    obtain ⟨x22, hs22, rfl, hl22⟩ := cons_of hl21
    obtain ⟨x23, hs23, rfl, hl23⟩ := cons_of hl22
    obtain ⟨x24, hs24, rfl, hl24⟩ := cons_of hl23
    obtain ⟨x25, hs25, rfl, hl25⟩ := cons_of hl24
    obtain ⟨x26, hs26, rfl, hl26⟩ := cons_of hl25
    obtain ⟨x27, hs27, rfl, hl27⟩ := cons_of hl26
    obtain ⟨x28, hs28, rfl, hl28⟩ := cons_of hl27
    obtain ⟨x29, hs29, rfl, hl29⟩ := cons_of hl28
    obtain ⟨x30, hs30, rfl, hl30⟩ := cons_of hl29
    obtain ⟨x31, hs31, rfl, hl31⟩ := cons_of hl30
    obtain rfl := List.eq_nil_of_length_eq_zero hl31
    exact neq_hash (leftV xs st') (errV st') x0 x1 x2 x3 x4 x5 x6 x7 x8 x9 x10 x11 x12 x13 x14 x15 x16 x17 x18 x19 x20 x21 x22 x23 x24 x25 x26 x27 x28 x29 x30 x31 (endV xs st') w
  rw [if_neg h0]
  by_cases h0 : n0 % 10 = 6
  · rw [if_pos h0]; exact neq_lit 0 0 (leftV xs st') (errV st') 0 0 0 0 0 0 0 0 0 0 0 0 0 0 0 0 0 0 0 0 0 0 0 0 0 0 0 0 0 0 0 0 ⟨(rawV xs st n1).toArray⟩ false (endV xs st') w
  rw [if_neg h0]
  by_cases h0 : n0 % 10 = 7
  · rw [if_pos h0]; exact neq_lit 0 0 (leftV xs st') (errV st') 0 0 0 0 0 0 0 0 0 0 0 0 0 0 0 0 0 0 0 0 0 0 0 0 0 0 0 0 0 0 0 0 ⟨(textV xs st n1).toArray⟩ false (endV xs st') w
  rw [if_neg h0]
  by_cases h0 : n0 % 10 = 8
  · rw [if_pos h0]; exact neq_lit 0 0 (leftV xs st') (errV st') 0 0 0 0 0 0 0 0 0 0 0 0 0 0 0 0 0 0 0 0 0 0 0 0 0 0 0 0 0 0 0 0 ⟨#[]⟩ (flagV xs st) (endV xs st') w
  rw [if_neg h0]
  exact neq_lit (countV xs st n1) 0 (leftV xs st') (errV st') 0 0 0 0 0 0 0 0 0 0 0 0 0 0 0 0 0 0 0 0 0 0 0 0 0 0 0 0 0 0 0 0 ⟨#[]⟩ false (endV xs st') w
end Go.Proofs.YtjbjagdpemnhiaaGreat
