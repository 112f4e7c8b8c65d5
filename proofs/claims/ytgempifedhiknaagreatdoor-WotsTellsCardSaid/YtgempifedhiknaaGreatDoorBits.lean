/-
  How the model's 32-bit numbers read as words of 32 bits. No condition.
-/
import Derived.Test.YtgempifedhiknaaGreatDoorSha
import Derived.WalkKit
import Derived.Laws.BitsAllLaws
namespace Go.Proofs.YtgempifedhiknaaGreatDoor
set_option maxRecDepth 100000
open Sha

theorem bv_add (a b : BitVec 32) : IntKind.u32.wrap ((a.toNat : Int) + (b.toNat : Int)) = ((a + b).toNat : Int) := by
  rw [IntKind.wrap_u32', BitVec.toNat_add]; omega
theorem bv_xor (a b : BitVec 32) : bits .xor .u32 (a.toNat : Int) (b.toNat : Int) = ((a ^^^ b).toNat : Int) := by
  rw [u32_xor_nat _ _ a.isLt b.isLt, BitVec.toNat_xor]
theorem bv_and (a b : BitVec 32) : bits .and .u32 (a.toNat : Int) (b.toNat : Int) = ((a &&& b).toNat : Int) := by
  rw [u32_and_nat _ _ a.isLt b.isLt, BitVec.toNat_and]
theorem bv_or (a b : BitVec 32) : bits .or .u32 (a.toNat : Int) (b.toNat : Int) = ((a ||| b).toNat : Int) := by
  rw [u32_or_nat _ _ a.isLt b.isLt, BitVec.toNat_or]
theorem bv_shr (a : BitVec 32) (n : Nat) : (a.toNat : Int) / 2 ^ n = ((a >>> n).toNat : Int) := by
  rw [BitVec.toNat_ushiftRight, Nat.shiftRight_eq_div_pow]; simp
theorem bv_shl (a : BitVec 32) (n : Nat) : IntKind.u32.wrap ((a.toNat : Int) * 2 ^ n) = ((a <<< n).toNat : Int) := by
  rw [IntKind.wrap_u32', BitVec.toNat_shiftLeft, Nat.shiftLeft_eq]; simp
theorem bv_not (e : BitVec 32) : (4294967295 : Int) - (e.toNat : Int) = ((~~~e).toNat : Int) := by
  rw [BitVec.toNat_not]; have := e.isLt; omega

theorem and31 (k : Int) (h1 : 1 ≤ k) (h2 : k ≤ 31) : bits .and .u64 (IntKind.u64.wrap (-k)) 31 = 32 - k := by
  have e : IntKind.u64.wrap (-k) = ((18446744073709551616 - k.toNat : Nat) : Int) := by
    rw [IntKind.wrap_u64]; omega
  rw [e]
  have := u64_and_nat (18446744073709551616 - k.toNat) 31 (by omega) (by omega)
  rw [nat_mask5] at this
  exact this.trans (by omega)
theorem ret_int {k : IntKind} {a b : Int} (h : a = b) : Ending.returned (.int k a) = .returned (.int k b) := by rw [h]
theorem rot_is (x : BitVec 32) (k : Int) (h1 : 1 ≤ k) (h2 : k ≤ 31) :
    bits .or .u32 ((x.toNat : Int) * 2 ^ (32 - k).toNat % 4294967296) ((x.toNat : Int) / 2 ^ (32 - (32 - k)).toNat) = ((rotr x k.toNat).toNat : Int) := by
  rw [← IntKind.wrap_u32', bv_shl, show 32 - (32 - k) = k by omega, bv_shr, bv_or, BitVec.or_comm]
  unfold rotr
  rw [show (32 - k).toNat = 32 - k.toNat by omega]

theorem byte_u32 (a : UInt8) : IntKind.u32.wrap (a.toNat : Int) = (a.toNat : Int) := by
  rw [IntKind.wrap_u32']; have := a.toNat_lt; omega
/-- Four bytes, joined by 'or'. -/
theorem or4 (a b c d : UInt8) : bits .or .u32 (bits .or .u32 (bits .or .u32 (IntKind.u32.wrap (IntKind.u32.wrap (a.toNat : Int) * 16777216)) (IntKind.u32.wrap (IntKind.u32.wrap (b.toNat : Int) * 65536)))
    (IntKind.u32.wrap (IntKind.u32.wrap (c.toNat : Int) * 256))) (IntKind.u32.wrap (d.toNat : Int)) = ((word a b c d).toNat : Int) := by
  have ha := a.toNat_lt
  have hb := b.toNat_lt
  have hc := c.toNat_lt
  have hd := d.toNat_lt
  simp only [byte_u32]
  have e1 : IntKind.u32.wrap ((a.toNat : Int) * 16777216) = ((a.toNat * 16777216 : Nat) : Int) := by rw [IntKind.wrap_u32']; omega
  have e2 : IntKind.u32.wrap ((b.toNat : Int) * 65536) = ((b.toNat * 65536 : Nat) : Int) := by rw [IntKind.wrap_u32']; omega
  have e3 : IntKind.u32.wrap ((c.toNat : Int) * 256) = ((c.toNat * 256 : Nat) : Int) := by rw [IntKind.wrap_u32']; omega
  rw [e1, e2, e3, u32_or_nat _ _ (by omega) (by omega), nat_join 24 _ _ (by omega) (by omega),
    u32_or_nat _ _ (by omega) (by omega), nat_join 16 _ _ (by omega) (by omega),
    u32_or_nat _ _ (by omega) (by omega), nat_join 8 _ _ (by omega) (by omega)]
  unfold word
  rw [BitVec.toNat_ofNat, Nat.mod_eq_of_lt (by omega)]

theorem s0_is (x : BitVec 32) : bits .xor .u32 (bits .xor .u32 ((rotr x 7).toNat : Int) ((rotr x 18).toNat : Int)) ((x.toNat : Int) / 8) = ((s0 x).toNat : Int) := by
  have := bv_shr x 3
  rw [show (x.toNat : Int) / 8 = (x.toNat : Int) / 2 ^ 3 by rfl, this, bv_xor, bv_xor]; rfl
theorem s1_is (x : BitVec 32) : bits .xor .u32 (bits .xor .u32 ((rotr x 17).toNat : Int) ((rotr x 19).toNat : Int)) ((x.toNat : Int) / 1024) = ((s1 x).toNat : Int) := by
  have := bv_shr x 10
  rw [show (x.toNat : Int) / 1024 = (x.toNat : Int) / 2 ^ 10 by rfl, this, bv_xor, bv_xor]; rfl
theorem sum4 (a b c d : BitVec 32) : IntKind.u32.wrap (IntKind.u32.wrap (IntKind.u32.wrap ((a.toNat : Int) + (b.toNat : Int)) + (c.toNat : Int)) + (d.toNat : Int)) = ((a + b + c + d).toNat : Int) := by
  rw [bv_add, bv_add, bv_add]

theorem sum4m (a b c d : BitVec 32) : ((a.toNat : Int) + (b.toNat : Int) + (c.toNat : Int) + (d.toNat : Int)) % 4294967296 = ((a + b + c + d).toNat : Int) := by
  rw [BitVec.toNat_add, BitVec.toNat_add, BitVec.toNat_add]; omega

theorem S1_is (e : BitVec 32) : bits .xor .u32 (bits .xor .u32 ((rotr e 6).toNat : Int) ((rotr e 11).toNat : Int)) ((rotr e 25).toNat : Int) = ((S1 e).toNat : Int) := by
  rw [bv_xor, bv_xor]; rfl
theorem S0_is (a : BitVec 32) : bits .xor .u32 (bits .xor .u32 ((rotr a 2).toNat : Int) ((rotr a 13).toNat : Int)) ((rotr a 22).toNat : Int) = ((S0 a).toNat : Int) := by
  rw [bv_xor, bv_xor]; rfl
theorem maj_is (a b c : BitVec 32) : bits .xor .u32 (bits .xor .u32 (bits .and .u32 (a.toNat : Int) (b.toNat : Int)) (bits .and .u32 (a.toNat : Int) (c.toNat : Int))) (bits .and .u32 (b.toNat : Int) (c.toNat : Int)) = ((maj a b c).toNat : Int) := by
  rw [bv_and, bv_and, bv_and, bv_xor, bv_xor]; rfl
theorem sum2m (a b : BitVec 32) : ((a.toNat : Int) + (b.toNat : Int)) % 4294967296 = ((a + b).toNat : Int) := by
  rw [BitVec.toNat_add]; omega

theorem not_is (e : BitVec 32) : bits .xor .u32 (if IntKind.u32.signed = true then -1 else IntKind.u32.max) (e.toNat : Int) = ((~~~e).toNat : Int) := by
  have h : (if IntKind.u32.signed = true then (-1 : Int) else IntKind.u32.max) = (((BitVec.allOnes 32).toNat : Nat) : Int) := by decide
  rw [h, bv_xor, BitVec.allOnes_xor]
theorem ch_is (e f g : BitVec 32) : bits .xor .u32 (bits .and .u32 (e.toNat : Int) (f.toNat : Int)) (bits .and .u32 ((~~~e).toNat : Int) (g.toNat : Int)) = ((ch e f g).toNat : Int) := by
  rw [bv_and, bv_and, bv_xor]; rfl
end Go.Proofs.YtgempifedhiknaaGreatDoor
