/-
  Sums as the document's own Add makes them: at the lower place, or cut 64 bits below the upper one. Plain mathematics.
-/
import Derived.Test.YtlgnkgcofdjamaaRnd
namespace Go.Proofs.Ytlgnkgcofdjamaa
open Ieee

theorem tot_at (a b : Nat) (d : Nat) (hd : pl a - pl b = d) : tot a b = (if sg a then -((mg a * 2 ^ d : Nat) : Int) else ((mg a * 2 ^ d : Nat) : Int)) + (if sg b then -(mg b : Int) else (mg b : Int)) := by
  unfold tot signed
  have e : min (pl a) (pl b) = pl b := by omega
  rw [e]
  have e1 : (pl a - pl b).toNat = d := by omega
  have e2 : (pl b - pl b).toNat = 0 := by omega
  rw [e1, e2, Nat.shiftLeft_eq, Nat.shiftLeft_eq, Nat.pow_zero, Nat.mul_one]
theorem addB_same (a b : Nat) (ha : rg a < inf) (hb : rg b < inf) (d : Nat) (hd : pl a - pl b = d) (hs : sg a = sg b) : addB a b = double.nearest (sg a) (mg a * 2 ^ d + mg b) (pl b) := by
  rw [addB_fin a b ha hb, tot_at a b d hd, ← hs]
  have e : min (pl a) (pl b) = pl b := by omega
  rw [e]
  generalize mg a * 2 ^ d = M
  generalize mg b = n
  cases sg a with
  | true =>
    simp only [if_true, Bool.and_self]
    have e1 : (-(M : Int) + -(n : Int)).natAbs = M + n := by omega
    rw [e1]
    by_cases h0 : -(M : Int) + -(n : Int) = 0
    · rw [if_pos h0]
    · rw [if_neg h0, decide_eq_true (by omega)]
  | false =>
    simp only [Bool.false_eq_true, if_false, Bool.and_self]
    have e1 : ((M : Int) + (n : Int)).natAbs = M + n := by omega
    rw [e1]
    by_cases h0 : (M : Int) + (n : Int) = 0
    · rw [if_pos h0]
    · rw [if_neg h0, decide_eq_false (by omega)]
theorem addB_diff (a b : Nat) (ha : rg a < inf) (hb : rg b < inf) (d : Nat) (hd : pl a - pl b = d) (hs : sg a ≠ sg b) :
    addB a b = if mg a * 2 ^ d < mg b then double.nearest (sg b) (mg b - mg a * 2 ^ d) (pl b) else if mg a * 2 ^ d = mg b then 0 else double.nearest (sg a) (mg a * 2 ^ d - mg b) (pl b) := by
  rw [addB_fin a b ha hb, tot_at a b d hd]
  have e : min (pl a) (pl b) = pl b := by omega
  rw [e]
  generalize mg a * 2 ^ d = M
  generalize mg b = n
  have hsb : sg b = !sg a := by cases h1 : sg a <;> cases h2 : sg b <;> simp_all
  rw [hsb]
  cases sg a with
  | true =>
    simp only [if_true, Bool.not_true, Bool.and_false, Bool.false_eq_true, if_false]
    have e1 : (-(M : Int) + (n : Int)).natAbs = if M < n then n - M else M - n := by split <;> omega
    rw [e1]
    by_cases h1 : M < n
    · rw [if_pos h1, if_pos h1, if_neg (by omega), decide_eq_false (by omega)]
    · rw [if_neg h1, if_neg h1]
      by_cases h2 : M = n
      · rw [if_pos h2, if_pos (by omega), h2, Nat.sub_self, nearest_zero]; rfl
      · rw [if_neg h2, if_neg (by omega), decide_eq_true (by omega)]
  | false =>
    simp only [Bool.false_eq_true, if_false, Bool.not_false, if_true, Bool.false_and]
    have e1 : ((M : Int) + -(n : Int)).natAbs = if M < n then n - M else M - n := by split <;> omega
    rw [e1]
    by_cases h1 : M < n
    · rw [if_pos h1, if_pos h1, if_neg (by omega), decide_eq_true (by omega)]
    · rw [if_neg h1, if_neg h1]
      by_cases h2 : M = n
      · rw [if_pos h2, if_pos (by omega), h2, Nat.sub_self, nearest_zero]; rfl
      · rw [if_neg h2, if_neg (by omega), decide_eq_false (by omega)]
theorem cut_pow (m e : Nat) : m * 2 ^ (e + 64) = m * 2 ^ 64 * 2 ^ e := by
  rw [Nat.add_comm, Nat.pow_add, Nat.mul_assoc]
theorem sum_cut (s : Bool) (m n e : Nat) (p : Int) (hm : 2 ^ 52 ≤ m) :
    double.nearest s (m * 2 ^ (e + 64) + n) (p - (e + 64 : Nat)) = near s (m * 2 ^ 64 + n / 2 ^ e) (p - 64) (decide (n % 2 ^ e ≠ 0)) := by
  have h1 := Nat.div_add_mod n (2 ^ e)
  have h2 := Nat.mod_lt n (Nat.two_pow_pos e)
  rw [cut_pow]
  rw [Nat.mul_comm] at h1
  unfold near
  by_cases hr : n % 2 ^ e = 0
  · simp only [hr, ne_eq, not_true_eq_false, decide_false, Bool.false_eq_true, if_false]
    rw [hr, Nat.add_zero] at h1
    have hs := nearest_scale s (m * 2 ^ 64 + n / 2 ^ e) e (p - 64)
    rw [Nat.add_mul, h1, show p - 64 - (e : Int) = p - ((e + 64 : Nat) : Int) by omega] at hs
    exact hs
  · simp only [hr, ne_eq, not_false_eq_true, decide_true, if_true]
    have hs := nearest_sticky s (m * 2 ^ 64 + n / 2 ^ e) e (m * 2 ^ 64 * 2 ^ e + n) (p - 64) (Nat.le_trans (show 2 ^ 53 ≤ m * 2 ^ 64 by omega) (Nat.le_add_right _ _)) (by rw [Nat.add_mul]; omega) (by rw [Nat.add_mul, Nat.add_mul, Nat.one_mul]; omega)
    rw [show p - 64 - (e : Int) = p - ((e + 64 : Nat) : Int) by omega] at hs
    exact hs
theorem diff_cut (s : Bool) (m n e : Nat) (p : Int) (hm : 2 ^ 52 ≤ m) (hn : n < 2 ^ 53) :
    double.nearest s (m * 2 ^ (e + 64) - n) (p - (e + 64 : Nat)) = near s (m * 2 ^ 64 - n / 2 ^ e - (decide (n % 2 ^ e ≠ 0)).toNat) (p - 64) (decide (n % 2 ^ e ≠ 0)) := by
  have h1 := Nat.div_add_mod n (2 ^ e)
  have h2 := Nat.mod_lt n (Nat.two_pow_pos e)
  have h3 := Nat.div_le_self n (2 ^ e)
  rw [cut_pow]
  rw [Nat.mul_comm] at h1
  unfold near
  by_cases hr : n % 2 ^ e = 0
  · simp only [hr, ne_eq, not_true_eq_false, decide_false, Bool.false_eq_true, if_false, Bool.toNat_false, Nat.sub_zero]
    rw [hr, Nat.add_zero] at h1
    have hs := nearest_scale s (m * 2 ^ 64 - n / 2 ^ e) e (p - 64)
    rw [Nat.sub_mul, h1, show p - 64 - (e : Int) = p - ((e + 64 : Nat) : Int) by omega] at hs
    exact hs
  · simp only [hr, ne_eq, not_false_eq_true, decide_true, if_true, Bool.toNat_true]
    obtain ⟨N, hN⟩ : ∃ N, m * 2 ^ 64 = N + 1 + n / 2 ^ e := ⟨m * 2 ^ 64 - n / 2 ^ e - 1, by omega⟩
    have e1 : m * 2 ^ 64 - n / 2 ^ e - 1 = N := by omega
    rw [e1]
    have e2 : m * 2 ^ 64 * 2 ^ e = N * 2 ^ e + 2 ^ e + n / 2 ^ e * 2 ^ e := by rw [hN, Nat.add_mul, Nat.add_mul, Nat.one_mul]
    have hs := nearest_sticky s N e (m * 2 ^ 64 * 2 ^ e - n) (p - 64) (by omega) (by omega) (by rw [Nat.add_mul, Nat.one_mul]; omega)
    rw [show p - 64 - (e : Int) = p - ((e + 64 : Nat) : Int) by omega] at hs
    exact hs
end Go.Proofs.Ytlgnkgcofdjamaa
