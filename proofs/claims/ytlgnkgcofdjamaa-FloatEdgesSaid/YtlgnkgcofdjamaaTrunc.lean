/-
  Whole numbers as reals, and back.
-/
import Derived.Test.YtlgnkgcofdjamaaWhole
namespace Go.Proofs.Ytlgnkgcofdjamaa
open Ieee

theorem cut_zero (neg : Bool) (n d : Nat) : Toward.zero.cut neg n d = n / 2 ^ d := by
  have hl : n < 2 ^ (n.log2 + 1) := Nat.lt_log2_self
  unfold Toward.cut
  simp only [Nat.one_shiftLeft]
  by_cases h : d ≤ n.log2 + 2
  · rw [Nat.min_eq_left h]; rfl
  · have h2 : 2 ^ (n.log2 + 2) ≤ 2 ^ d := Nat.pow_le_pow_right (by decide) (by omega)
    have h3 : 2 ^ (n.log2 + 2) = 2 * 2 ^ (n.log2 + 1) := by rw [Nat.pow_succ]; omega
    rw [Nat.min_eq_right (by omega), Nat.div_eq_of_lt (by omega), Nat.div_eq_of_lt (by omega)]; rfl
theorem pow_exact (m k T : Nat) (i : Int) (hT : (T : Int) = i + k) (n : Nat) (h : n * 2 ^ k = m * 2 ^ T) : (m <<< i.toNat) / 2 ^ (-i).toNat = n := by
  rw [Nat.shiftLeft_eq]
  by_cases hc : 0 ≤ i
  · have e1 : (-i).toNat = 0 := by omega
    have e2 : T = i.toNat + k := by omega
    rw [e1, Nat.pow_zero, Nat.div_one]
    rw [e2, Nat.pow_add, ← Nat.mul_assoc] at h
    exact (Nat.eq_of_mul_eq_mul_right (Nat.two_pow_pos k) h).symm
  · have e1 : i.toNat = 0 := by omega
    have e2 : k = (-i).toNat + T := by omega
    rw [e1, Nat.pow_zero, Nat.mul_one]
    rw [e2, Nat.pow_add, ← Nat.mul_assoc] at h
    have h2 := Nat.eq_of_mul_eq_mul_right (Nat.two_pow_pos T) h
    rw [← h2]
    exact Nat.mul_div_cancel _ (Nat.two_pow_pos _)
theorem trunc_ofB (n : Int) (hn : n.natAbs ≤ 2 ^ 53) : floatToIntVal .f64 (ofB n) .i64 = some n := by
  obtain ⟨_, f1, s1, v1⟩ := ofB_parts n hn
  obtain ⟨m, i, e, hp, hv⟩ := read_fin _ f1
  rw [v1] at hv
  unfold floatToIntVal
  show (match (double.read (ofB n)).toInt .zero with | some n => if IntKind.i64.min ≤ n ∧ n ≤ IntKind.i64.max then some n else none | none => none) = some n
  rw [e]
  have ht : (Datum.number (sg (ofB n)) m i).toInt .zero = some n := by
    unfold Datum.toInt Datum.integral
    simp only [cut_zero]
    rw [pow_exact m 1074 (i + 1074).toNat i (by omega) n.natAbs (by unfold U at hv; exact hv)]
    refine congrArg some ?_
    unfold signed
    rw [s1, Nat.shiftLeft_zero]
    by_cases h : n < 0
    · rw [if_pos (by simpa using h)]; omega
    · rw [if_neg (by simpa using h)]; omega
  rw [ht]
  have hmin : IntKind.i64.min = -9223372036854775808 := rfl
  have hmax : IntKind.i64.max = 9223372036854775807 := rfl
  show (if IntKind.i64.min ≤ n ∧ n ≤ IntKind.i64.max then some n else none) = some n
  rw [if_pos (by omega)]
theorem pow_U (k : Nat) : 2 ^ (k + 1074) = 2 ^ k * U := by
  unfold U
  exact Nat.pow_add 2 k 1074
theorem V_unit (e k : Nat) (h : 52 + e = k + 1074) : V ((e + 1) * 2 ^ 52 + 0) = 2 ^ k * U := by
  rw [V_pow, h, pow_U]
theorem C1_rung : rg C1 = (1085 + 1) * 2 ^ 52 + 0 := by decide
theorem C2_rung : rg C2 = (1085 + 1) * 2 ^ 52 + 0 := by decide
theorem V_C1 : V (rg C1) = 2 ^ 63 * U := (congrArg V C1_rung).trans (V_unit 1085 63 rfl)
theorem V_C2 : V (rg C2) = 2 ^ 63 * U := (congrArg V C2_rung).trans (V_unit 1085 63 rfl)
theorem ofB_low (n : Int) (hn : n.natAbs ≤ 2 ^ 53) : (orderIs .gt (ofB n) C1 || orderIs .eq (ofB n) C1) = true := by
  have hv : val C1 < val (ofB n) := by
    rw [(ofB_parts n hn).1]
    have : val C1 = -(2 ^ 63 : Nat) * (U : Int) := by
      unfold val
      rw [if_pos (by decide), V_C1, Int.natCast_mul, Int.neg_mul]
    rw [this]
    exact Int.mul_lt_mul_of_pos_right (by omega) (by have := U_pos; omega)
  have hk := (val_lt _ _).1 hv
  have : orderIs .gt (ofB n) C1 = true := by
    unfold orderIs
    show (double.order (ofB n) C1 == some .gt) = true
    rw [order_some _ _ (none_ofB n) (by decide), cmp_gt hk]; rfl
  rw [this, Bool.true_or]
theorem ofB_high (n : Int) (hn : n.natAbs ≤ 2 ^ 53) : orderIs .lt (ofB n) C2 = true := by
  have hv : val (ofB n) < val C2 := by
    rw [(ofB_parts n hn).1]
    have : val C2 = (2 ^ 63 : Nat) * (U : Int) := by
      unfold val
      rw [if_neg (by decide), V_C2, Int.natCast_mul]
    rw [this]
    exact Int.mul_lt_mul_of_pos_right (by omega) (by have := U_pos; omega)
  have hk := (val_lt _ _).1 hv
  unfold orderIs
  show (double.order (ofB n) C2 == some .lt) = true
  rw [order_some _ _ (none_ofB n) (by decide), cmp_lt hk]; rfl
theorem int_ofB (W : World) (n : Int) (hn : n.natAbs ≤ 2 ^ 53) : Calls Try.prog 8 #[.int .u64 (ofB n)] W fun e w' => e = .returned (.tuple #[.int .i64 n, .bool true]) ∧ W = w' :=
  int_in W (ofB n) n (ofB_low n hn) (ofB_high n hn) (trunc_ofB n hn)
theorem ofB_zero : ofB 0 = 0 := by decide
theorem sqrt_mul (n : Int) (hn : n.natAbs ≤ 2 ^ 26) : sqrtB (mulB (ofB n) (ofB n)) = ofB n.natAbs := by
  by_cases h0 : n = 0
  · subst h0
    rw [ofB_zero]; decide
  · rw [ofB_mul hn hn (Int.mul_ne_zero h0 h0)]
    exact sqrt_sq n hn h0
end Go.Proofs.Ytlgnkgcofdjamaa
