/-
  Rounding with bits left behind: what lies between two numbers next to each other rounds alike. Plain mathematics, no condition.
-/
import Derived.Test.YtlgnkgcofdjamaaWord
namespace Go.Proofs.Ytlgnkgcofdjamaa
open Ieee

theorem div_between {N P A : Nat} (h1 : N * P ≤ A) (h2 : A < (N + 1) * P) : A / P = N :=
  Nat.div_eq_of_lt_le h1 h2
theorem rhe_between (N j A D : Nat) (h1 : N * 2 ^ j < A) (h2 : A < (N + 1) * 2 ^ j) :
    rhe A (D + 1 + j) = N / 2 ^ (D + 1) + (decide (2 ^ D ≤ N % 2 ^ (D + 1))).toNat := by
  have hd : A / 2 ^ j = N := div_between (Nat.le_of_lt h1) h2
  have hq : A / 2 ^ (D + 1 + j) = N / 2 ^ (D + 1) := by
    rw [Nat.add_comm (D + 1) j, Nat.pow_add, ← Nat.div_div_eq_div_mul, hd]
  have hm : A % 2 ^ (D + 1 + j) = A % 2 ^ j + 2 ^ j * (N % 2 ^ (D + 1)) := by
    rw [Nat.add_comm (D + 1) j, Nat.pow_add, Nat.mod_mul, hd]
  unfold rhe
  rw [hq, hm]
  congr 2
  have hp : 0 < 2 ^ j := Nat.two_pow_pos _
  have hs : 0 < A % 2 ^ j := by
    have := Nat.div_add_mod A (2 ^ j)
    rw [hd, Nat.mul_comm] at this
    omega
  have hs2 := Nat.mod_lt A hp
  have e : 2 ^ (D + 1 + j) = 2 * (2 ^ j * 2 ^ D) := by
    rw [Nat.add_comm (D + 1) j, Nat.pow_add, Nat.pow_succ]
    rw [← Nat.mul_assoc, Nat.mul_comm]
  rw [e]
  generalize N % 2 ^ (D + 1) = r
  generalize 2 ^ D = H
  generalize A % 2 ^ j = s at hs hs2
  generalize 2 ^ j = P at hs2
  by_cases h : H ≤ r
  · have := Nat.mul_le_mul_left P h
    have c1 : 2 * (P * H) < 2 * (s + P * r) := by omega
    simp only [c1, h, decide_true, Bool.true_or]
  · have := Nat.mul_le_mul_left P (show r + 1 ≤ H by omega)
    rw [Nat.mul_add, Nat.mul_one] at this
    have c1 : ¬ 2 * (P * H) < 2 * (s + P * r) := by omega
    have c2 : ¬ 2 * (P * H) = 2 * (s + P * r) := by omega
    simp only [c1, c2, h, decide_false, Bool.false_and, Bool.or_false]
theorem rhe_sticky (N j A D : Nat) (hD : 1 ≤ D) (h1 : N * 2 ^ j < A) (h2 : A < (N + 1) * 2 ^ j) : rhe A (D + j) = rhe (2 * N + 1) (D + 1) := by
  obtain ⟨d, rfl⟩ : ∃ d, D = d + 1 := ⟨D - 1, by omega⟩
  rw [rhe_between N j A d h1 h2, rhe_between N 1 (2 * N + 1) d (by omega) (by omega)]
theorem log2_between {N j A : Nat} (h0 : N ≠ 0) (h1 : N * 2 ^ j ≤ A) (h2 : A < (N + 1) * 2 ^ j) : A.log2 = N.log2 + j := by
  have hp : 0 < 2 ^ j := Nat.two_pow_pos _
  have a1 := Nat.log2_self_le h0
  have a2 : N < 2 ^ (N.log2 + 1) := Nat.lt_log2_self
  have hN : 1 * 2 ^ j ≤ N * 2 ^ j := Nat.mul_le_mul_right _ (by omega)
  rw [Nat.log2_eq_iff (by omega)]
  refine ⟨Nat.le_trans ?_ h1, Nat.lt_of_lt_of_le h2 ?_⟩
  · rw [Nat.pow_add]; exact Nat.mul_le_mul_right _ a1
  · rw [show N.log2 + j + 1 = (N.log2 + 1) + j by omega, Nat.pow_add]; exact Nat.mul_le_mul_right _ a2
theorem nearest_def (neg : Bool) (mag : Nat) (place last : Int) (h0 : mag ≠ 0) (hl : last = max (place + mag.log2 - 52) (-1074)) :
    double.nearest neg mag place = mk neg (min ((last + 1074).toNat * 2 ^ 52 + rhe (mag * 2 ^ (place - last).toNat) (last - place).toNat) inf) := by
  subst hl
  unfold Format.nearest
  rw [if_neg h0]
  show mk neg (min ((max (place + mag.log2 - 52) (-1074) - -1074).toNat * 2 ^ 52 + Toward.even.cut neg (mag <<< (place - max (place + mag.log2 - 52) (-1074)).toNat) (max (place + mag.log2 - 52) (-1074) - place).toNat) inf) = _
  rw [cut_even, Nat.shiftLeft_eq, Int.sub_neg]
theorem nearest_zero (neg : Bool) (place : Int) : double.nearest neg 0 place = mk neg 0 := by
  unfold Format.nearest
  rw [if_pos rfl]; rfl
/-- The same number at another place. -/
theorem nearest_scale (neg : Bool) (M s : Nat) (P : Int) : double.nearest neg (M * 2 ^ s) (P - s) = double.nearest neg M P := by
  obtain ⟨K, hK⟩ : ∃ K : Nat, 0 ≤ P - s + 1074 + K := ⟨(-(P - s + 1074)).toNat, by omega⟩
  rw [nearest_rnd neg _ _ K hK, nearest_rnd neg _ P K (by omega)]
  have e : M * 2 ^ s * 2 ^ (P - s + 1074 + K).toNat = M * 2 ^ (P + 1074 + K).toNat := by
    rw [Nat.mul_assoc, ← Nat.pow_add]
    congr 2
    omega
  rw [e]
theorem nearest_sticky (neg : Bool) (N j A : Nat) (E : Int) (hN : 2 ^ 53 ≤ N) (h1 : N * 2 ^ j < A) (h2 : A < (N + 1) * 2 ^ j) :
    double.nearest neg A (E - j) = double.nearest neg (2 * N + 1) (E - 1) := by
  have h0 : N ≠ 0 := by omega
  have hl : 53 ≤ N.log2 := (Nat.le_log2 h0).2 hN
  have l1 := log2_between h0 (Nat.le_of_lt h1) h2
  have l2 : (2 * N + 1).log2 = N.log2 + 1 := log2_between (j := 1) h0 (by omega) (by omega)
  have hA : A ≠ 0 := by omega
  obtain ⟨last, hlast⟩ : ∃ last : Int, last = max (E + N.log2 - 52) (-1074) := ⟨_, rfl⟩
  rw [nearest_def neg A _ last hA (by rw [l1]; omega), nearest_def neg (2 * N + 1) _ last (by omega) (by rw [l2]; omega)]
  have e1 : (E - (j : Int) - last).toNat = 0 := by omega
  have e2 : (E - 1 - last).toNat = 0 := by omega
  obtain ⟨D, hD⟩ : ∃ D : Nat, (D : Int) = last - E := ⟨(last - E).toNat, by omega⟩
  have e3 : (last - (E - (j : Int))).toNat = D + j := by omega
  have e4 : (last - (E - 1)).toNat = D + 1 := by omega
  rw [e1, e2, e3, e4, Nat.pow_zero, Nat.mul_one, Nat.mul_one, rhe_sticky N j A D (by omega) h1 h2]
end Go.Proofs.Ytlgnkgcofdjamaa
