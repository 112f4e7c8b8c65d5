/-
  Quotients and roots as the document's own Div and Sqrt cut them. Plain mathematics.
-/
import Derived.Test.YtlgnkgcofdjamaaAddM
namespace Go.Proofs.Ytlgnkgcofdjamaa
open Ieee

theorem near_eq (neg : Bool) (N : Nat) (E : Int) (more : Bool) : near neg N E more = double.nearest neg (2 * N + more.toNat) (E - 1) := by
  unfold near
  cases more with
  | true => simp only [if_true, Bool.toNat_true]
  | false =>
    have h := nearest_scale neg N 1 E
    rw [Nat.pow_one, Nat.mul_comm N 2, Int.natCast_one] at h
    simp only [Bool.false_eq_true, if_false, Bool.toNat_false, Nat.add_zero]
    exact h.symm
theorem bne_dec (a : Nat) : (a != 0) = decide (a ≠ 0) := by by_cases h : a = 0 <;> simp [h]
theorem div_near (a b : Nat) (ha : rg a < inf) (hb : rg b < inf) (h0 : mg a ≠ 0) (h1 : mg b ≠ 0) (i k : Nat) (hi : 2 ^ 63 ≤ mg a * 2 ^ i) (hk2 : mg b * 2 ^ k < 2 ^ 64) (hk3 : k ≤ 63) :
    divB a b = near (sg a ^^ sg b) (mg a * 2 ^ i * 2 ^ 63 / (mg b * 2 ^ k)) (pl a - i - 63 - (pl b - k)) (decide (mg a * 2 ^ i * 2 ^ 63 % (mg b * 2 ^ k) ≠ 0)) := by
  have hp : 0 < 2 ^ k := Nat.two_pow_pos _
  have l1 := Nat.log2_self_le h0
  have l2 : mg b < 2 ^ ((mg b).log2 + 1) := Nat.lt_log2_self
  have l3 : (mg a).log2 ≤ 52 := by
    have := (Nat.log2_lt h0).2 (mg_lt a)
    omega
  have ex : mg a * 2 ^ i * 2 ^ 63 = mg a * 2 ^ (i + 63 - k) * 2 ^ k := by
    rw [Nat.mul_assoc, Nat.mul_assoc, ← Nat.pow_add, ← Nat.pow_add]
    congr 2
    omega
  have hs : 2 ^ 53 ≤ mg a * 2 ^ (54 + (mg b).log2 - (mg a).log2) / mg b := by
    rw [Nat.le_div_iff_mul_le (by omega)]
    have h2 : 2 ^ 53 * mg b ≤ 2 ^ (54 + (mg b).log2) := by
      have := Nat.mul_le_mul_left (2 ^ 53) (Nat.le_of_lt l2)
      rw [← Nat.pow_add] at this
      exact Nat.le_trans this (Nat.pow_le_pow_right (by decide) (by omega))
    refine Nat.le_trans h2 ?_
    have := Nat.mul_le_mul_right (2 ^ (54 + (mg b).log2 - (mg a).log2)) l1
    rw [← Nat.pow_add] at this
    exact Nat.le_trans (Nat.pow_le_pow_right (by decide) (by omega)) this
  have ht : 2 ^ 53 ≤ mg a * 2 ^ (i + 63 - k) / mg b := by
    rw [Nat.le_div_iff_mul_le (by omega)]
    have h2 : 2 ^ 53 * mg b * 2 ^ k ≤ mg a * 2 ^ (i + 63 - k) * 2 ^ k := by
      rw [← ex, Nat.mul_assoc]
      have a1 := Nat.mul_le_mul_left (2 ^ 53) (Nat.le_of_lt hk2)
      have a2 := Nat.mul_le_mul_right (2 ^ 63) hi
      exact Nat.le_trans a1 (Nat.le_trans (by decide) a2)
    exact Nat.le_of_mul_le_mul_right h2 hp
  rw [divB_fin a b ha hb h1, near_eq, ex, Nat.mul_div_mul_right _ _ hp, Nat.mul_mod_mul_right, ← quot_any _ (mg a) (mg b) _ (i + 63 - k) (pl a - pl b) (by omega) hs ht]
  have e1 : decide (mg a * 2 ^ (i + 63 - k) % mg b * 2 ^ k ≠ 0) = decide (mg a * 2 ^ (i + 63 - k) % mg b ≠ 0) := by
    rw [decide_eq_decide]
    constructor
    · intro h e; exact h (by rw [e, Nat.zero_mul])
    · intro h e
      rcases Nat.mul_eq_zero.1 e with e | e
      · exact h e
      · omega
  have e2 : pl a - (i : Int) - 63 - (pl b - (k : Int)) - 1 = pl a - pl b - ((i + 63 - k : Nat) : Int) - 1 := by omega
  rw [e1, e2, bne_dec]
theorem sqrt_near (a : Nat) (ha : rg a < inf) (hs : sg a = false) (h0 : mg a ≠ 0) (n : Nat) (hn : n + (mg a).log2 = 125 ∨ n + (mg a).log2 = 124) (hpar : (pl a - n) % 2 = 0) (r : Nat) (hr : IsRoot r (mg a * 2 ^ n)) :
    sqrtB a = near false r ((pl a - n) / 2) (decide (r * r ≠ mg a * 2 ^ n)) := by
  have l1 := Nat.log2_self_le h0
  have l3 : (mg a).log2 ≤ 52 := by
    have := (Nat.log2_lt h0).2 (mg_lt a)
    omega
  obtain ⟨e, he⟩ : ∃ e : Nat, (e : Int) = (108 - (mg a).log2 : Nat) + (pl a - (108 - (mg a).log2 : Nat)) % 2 := ⟨((108 - (mg a).log2 : Nat) + (pl a - (108 - (mg a).log2 : Nat)) % 2).toNat, by omega⟩
  obtain ⟨d, hd⟩ : ∃ d : Nat, n = e + 2 * d := ⟨(n - e) / 2, by omega⟩
  have hroot := rootFrom_all (mg a * 2 ^ e)
  generalize Datum.rootFrom (mg a * 2 ^ e) ((mg a * 2 ^ e).log2 / 2 + 1) 0 = q at hroot
  have hN : mg a * 2 ^ n = mg a * 2 ^ e * 4 ^ d := by
    rw [hd, Nat.pow_add, Nat.pow_mul, Nat.mul_assoc]
  have hq : 2 ^ 53 ≤ q := by
    have a1 := Nat.mul_le_mul_right (2 ^ e) l1
    rw [← Nat.pow_add] at a1
    have a2 : 2 ^ 108 ≤ 2 ^ ((mg a).log2 + e) := Nat.pow_le_pow_right (by decide) (by omega)
    have a3 : 2 ^ 54 * 2 ^ 54 < (q + 1) * (q + 1) := Nat.lt_of_le_of_lt (Nat.le_trans (by decide) (Nat.le_trans a2 a1)) hroot.2
    have := sq_lt a3
    omega
  rw [sqrtB_fin a ha hs h0 e he q hroot, near_eq]
  have hrs := root_scale (mg a * 2 ^ e) d q r ((pl a - e) / 2) hroot (by rw [← hN]; exact hr) hq
  rw [← hN] at hrs
  rw [← hrs]
  have e2 : (pl a - (n : Int)) / 2 - 1 = (pl a - (e : Int)) / 2 - (d : Int) - 1 := by omega
  rw [e2]
  congr 2
  by_cases h : r * r = mg a * 2 ^ n <;> simp [h]
end Go.Proofs.Ytlgnkgcofdjamaa
