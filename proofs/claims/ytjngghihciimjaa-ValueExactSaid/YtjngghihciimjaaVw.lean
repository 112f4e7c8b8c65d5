/-
  Numbers of 128 bits as two of 64: their halves, their sums, those of 64 bits. Plain mathematics.
-/
import Derived.Test.YtjngghihciimjaaVm
import Derived.IntWalk
namespace Go.Proofs.Ytjngghihciimjaa

/-- The upper half, as a number with a sign; the lower one. -/
def hiS (x : BitVec 128) : Int := IntKind.i64.wrap ((x.toNat / 18446744073709551616 : Nat) : Int)
def loN (x : BitVec 128) : Nat := x.toNat % 18446744073709551616
def wv (x : BitVec 128) : Value := .agg #[.int .i64 (hiS x), .int .u64 (loN x)]
theorem wv_zero : wv 0 = .agg #[.int .i64 0, .int .u64 0] := by kernel_rfl
theorem loN_lt (x : BitVec 128) : loN x < 18446744073709551616 := Nat.mod_lt _ (by decide)
theorem hiS_lo (x : BitVec 128) : -9223372036854775808 ≤ hiS x ∧ hiS x < 9223372036854775808 := by
  unfold hiS
  rw [IntKind.wrap_i64]
  omega
theorem p128 : (2 : Nat) ^ 128 = 18446744073709551616 * 18446744073709551616 := by decide
theorem half_lt (x : BitVec 128) : x.toNat / 18446744073709551616 < 18446744073709551616 := by
  have := x.isLt
  rw [p128] at this
  exact (Nat.div_lt_iff_lt_mul (by decide)).2 this
theorem w_inj {x y : BitVec 128} (h : hiS x = hiS y) (l : loN x = loN y) : x = y := by
  apply BitVec.eq_of_toNat_eq
  have hx := half_lt x
  have hy := half_lt y
  unfold hiS at h
  rw [IntKind.wrap_i64, IntKind.wrap_i64] at h
  unfold loN at l
  have e : x.toNat / 18446744073709551616 = y.toNat / 18446744073709551616 := by
    generalize x.toNat / 18446744073709551616 = a at *
    generalize y.toNat / 18446744073709551616 = b at *
    omega
  rw [← Nat.div_add_mod x.toNat 18446744073709551616, ← Nat.div_add_mod y.toNat 18446744073709551616, e, l]
theorem wv_inj {x y : BitVec 128} (h : wv x = wv y) : x = y := by
  unfold wv at h
  simp only [Value.agg.injEq, Array.mk.injEq, List.cons.injEq, Value.int.injEq, true_and, and_true] at h
  exact w_inj h.1 (by omega)
/-- The lower half of a sum, and what is carried. -/
theorem lo_add (x y : BitVec 128) : loN (x + y) = (loN x + loN y) % 18446744073709551616 := by
  unfold loN
  rw [BitVec.toNat_add, p128, Nat.mod_mul_right_mod, Nat.add_mod]
theorem hi_nat (a b K : Nat) (hK : 0 < K) : (a + b) / K = a / K + b / K + (a % K + b % K) / K := by
  have h1 := Nat.div_add_mod a K
  have h2 := Nat.div_add_mod b K
  have e : a + b = (a % K + b % K) + K * (a / K + b / K) := by rw [Nat.mul_add]; omega
  rw [e, Nat.add_mul_div_left _ _ hK]
  omega
theorem hi_toNat (x y : BitVec 128) : (x + y).toNat / 18446744073709551616 = (x.toNat / 18446744073709551616 + y.toNat / 18446744073709551616 + (loN x + loN y) / 18446744073709551616) % 18446744073709551616 := by
  unfold loN
  rw [BitVec.toNat_add, p128, Nat.mod_mul_right_div_self, hi_nat _ _ _ (by decide)]
theorem wrap_carry (a b c : Nat) : IntKind.i64.wrap (((a + b + c) % 18446744073709551616 : Nat) : Int) = IntKind.i64.wrap (IntKind.i64.wrap (IntKind.i64.wrap (a : Int) + IntKind.i64.wrap (b : Int)) + (c : Int)) := by
  simp only [IntKind.wrap_i64]
  omega
theorem hi_add (x y : BitVec 128) : hiS (x + y) = IntKind.i64.wrap (IntKind.i64.wrap (hiS x + hiS y) + (((loN x + loN y) / 18446744073709551616 : Nat) : Int)) := by
  unfold hiS
  rw [hi_toNat, wrap_carry]
/-- A number of 64 bits. -/
def wide (n : Int) : BitVec 128 := BitVec.ofInt 128 n
theorem wide_nat (n : Int) : (wide n).toNat = (n % 340282366920938463463374607431768211456).toNat := by
  unfold wide
  rw [BitVec.toNat_ofInt]
  rfl
theorem hi_wide (n : Int) (h0 : -9223372036854775808 ≤ n) (h1 : n < 9223372036854775808) : hiS (wide n) = n / 9223372036854775808 := by
  unfold hiS
  rw [wide_nat, IntKind.wrap_i64]
  by_cases h : 0 ≤ n
  · rw [Int.emod_eq_of_lt h (by omega)]
    have e1 : n.toNat / 18446744073709551616 = 0 := Nat.div_eq_of_lt (by omega)
    rw [e1]
    omega
  · have e : n % 340282366920938463463374607431768211456 = n + 340282366920938463463374607431768211456 := by omega
    rw [e]
    have e1 : (n + 340282366920938463463374607431768211456).toNat / 18446744073709551616 = 18446744073709551615 := by omega
    rw [e1]
    omega
theorem lo_wide (n : Int) : (loN (wide n) : Int) = n % 18446744073709551616 := by
  unfold loN
  rw [wide_nat]
  omega
theorem wide_add (a b : Int) : wide (a + b) = wide a + wide b := by
  unfold wide
  exact BitVec.ofInt_add a b
theorem wide_zero : wide 0 = 0 := by decide
/-- Does it fit a bundle? -/
def fitsW (x : BitVec 128) : Bool := decide (x.toNat < 9223372036854775808)
theorem fits_halves (x : BitVec 128) : fitsW x = true ↔ hiS x = 0 ∧ loN x < 9223372036854775808 := by
  unfold fitsW hiS loN
  have hx := half_lt x
  rw [decide_eq_true_iff, IntKind.wrap_i64]
  generalize x.toNat = n at *
  omega
theorem wide_fits (n : Int) (h0 : 0 ≤ n) (h1 : n < 9223372036854775808) : fitsW (wide n) = true := by
  unfold fitsW
  rw [wide_nat, decide_eq_true_iff]
  omega
end Go.Proofs.Ytjngghihciimjaa
