/-
  A quotient, a root, rounded: on what scale it was cut does not matter. Plain mathematics, no condition.
-/
import Derived.Test.YtlgnkgcofdjamaaSticky
namespace Go.Proofs.Ytlgnkgcofdjamaa
open Ieee

theorem two_scale (Q d : Nat) : 2 * (Q * 2 ^ d) = Q * 2 ^ (d + 1) := by
  rw [Nat.pow_succ, ← Nat.mul_assoc Q, Nat.mul_comm _ 2]
theorem bne_true {a b : Nat} (h : a ≠ b) : (a != b).toNat = 1 := by simp [h]
theorem quot_scale (neg : Bool) (m n s d : Nat) (P : Int) (hn : 0 < n) (hQ : 2 ^ 53 ≤ m * 2 ^ s / n) :
    double.nearest neg (2 * (m * 2 ^ (s + d) / n) + (m * 2 ^ (s + d) % n != 0).toNat) (P - (s + d : Nat) - 1) = double.nearest neg (2 * (m * 2 ^ s / n) + (m * 2 ^ s % n != 0).toNat) (P - s - 1) := by
  have hX : m * 2 ^ (s + d) = m * 2 ^ s * 2 ^ d := by rw [Nat.pow_add, Nat.mul_assoc]
  rw [hX]
  generalize m * 2 ^ s = x at hQ ⊢
  have h1 := Nat.div_add_mod x n
  have h2 := Nat.mod_lt x hn
  have h3 := Nat.div_add_mod (x * 2 ^ d) n
  have h4 := Nat.mod_lt (x * 2 ^ d) hn
  have hp : 0 < 2 ^ d := Nat.two_pow_pos _
  generalize x / n = Q at h1 hQ ⊢
  generalize x % n = R at h1 h2 ⊢
  generalize x * 2 ^ d / n = Y at h3 ⊢
  generalize x * 2 ^ d % n = Z at h3 h4 ⊢
  have e1 : n * Y + Z = n * (Q * 2 ^ d) + R * 2 ^ d := by rw [h3, ← h1, Nat.add_mul, Nat.mul_assoc]
  by_cases hR : R = 0
  · subst hR
    rw [Nat.zero_mul, Nat.add_zero] at e1
    have hY : Y = Q * 2 ^ d := by
      have a1 : n * Y ≤ n * (Q * 2 ^ d) := by omega
      have a2 : n * (Q * 2 ^ d) < n * (Y + 1) := by rw [Nat.mul_add, Nat.mul_one]; omega
      have b1 := Nat.le_of_mul_le_mul_left a1 hn
      have b2 := Nat.lt_of_mul_lt_mul_left a2
      omega
    subst hY
    obtain rfl : Z = 0 := by omega
    have := nearest_scale neg (2 * Q) d (P - s - 1)
    rw [show 2 * Q * 2 ^ d = 2 * (Q * 2 ^ d) by rw [Nat.mul_assoc], show P - (s : Int) - 1 - (d : Int) = P - ((s + d : Nat) : Int) - 1 by omega] at this
    exact this
  · have st : (R != 0).toNat = 1 := by simp [hR]
    rw [st]
    have b1 : Q * 2 ^ d ≤ Y := by
      have : n * (Q * 2 ^ d) < n * (Y + 1) := by rw [Nat.mul_add, Nat.mul_one]; omega
      have := Nat.lt_of_mul_lt_mul_left this
      omega
    have b2 : Y < (Q + 1) * 2 ^ d := by
      have hRd : R * 2 ^ d < n * 2 ^ d := (Nat.mul_lt_mul_right hp).2 h2
      have : n * Y < n * ((Q + 1) * 2 ^ d) := by rw [Nat.add_mul, Nat.one_mul, Nat.mul_add]; omega
      exact Nat.lt_of_mul_lt_mul_left this
    have b3 : Z = 0 → Q * 2 ^ d < Y := by
      intro hz
      have hRp : 0 < R * 2 ^ d := Nat.mul_pos (by omega) hp
      have : n * (Q * 2 ^ d) < n * Y := by omega
      exact Nat.lt_of_mul_lt_mul_left this
    have c1 := two_scale Q d
    have c2 := two_scale (Q + 1) d
    have hs := nearest_sticky neg Q (d + 1) (2 * Y + (Z != 0).toNat) (P - s) hQ (by
      by_cases hz : Z = 0
      · have := b3 hz; rw [hz]; simp only [bne_self_eq_false, Bool.toNat_false]; omega
      · rw [bne_true hz]; omega) (by
      by_cases hz : Z = 0
      · rw [hz]; simp only [bne_self_eq_false, Bool.toNat_false]; omega
      · rw [bne_true hz]; omega)
    rw [show P - (s : Int) - ((d + 1 : Nat) : Int) = P - ((s + d : Nat) : Int) - 1 by omega] at hs
    exact hs
theorem quot_any (neg : Bool) (m n s t : Nat) (P : Int) (hn : 0 < n) (hs : 2 ^ 53 ≤ m * 2 ^ s / n) (ht : 2 ^ 53 ≤ m * 2 ^ t / n) :
    double.nearest neg (2 * (m * 2 ^ t / n) + (m * 2 ^ t % n != 0).toNat) (P - t - 1) = double.nearest neg (2 * (m * 2 ^ s / n) + (m * 2 ^ s % n != 0).toNat) (P - s - 1) := by
  rcases Nat.le_total s t with h | h
  · obtain ⟨d, rfl⟩ := Nat.exists_eq_add_of_le h
    exact quot_scale neg m n s d P hn hs
  · obtain ⟨d, rfl⟩ := Nat.exists_eq_add_of_le h
    exact (quot_scale neg m n t d P hn ht).symm
/-- r is n's root, cut. -/
def IsRoot (r n : Nat) : Prop := r * r ≤ n ∧ n < (r + 1) * (r + 1)
theorem sq_lt {a b : Nat} (h : a * a < b * b) : a < b := Nat.mul_self_lt_mul_self_iff.1 h
theorem sq_le {a b : Nat} (h : a * a ≤ b * b) : a ≤ b := Nat.mul_self_le_mul_self_iff.1 h
theorem sq_pow (a d : Nat) : a * 2 ^ d * (a * 2 ^ d) = a * a * 4 ^ d := by
  rw [Nat.mul_mul_mul_comm, ← Nat.pow_add, ← Nat.two_mul, Nat.pow_mul]
theorem root_scale (n d r r' : Nat) (P : Int) (h : IsRoot r n) (h' : IsRoot r' (n * 4 ^ d)) (hr : 2 ^ 53 ≤ r) :
    double.nearest false (2 * r' + (r' * r' != n * 4 ^ d).toNat) (P - d - 1) = double.nearest false (2 * r + (r * r != n).toNat) (P - 1) := by
  have hp : 0 < 4 ^ d := Nat.pow_pos (by decide)
  have b1 : r * 2 ^ d ≤ r' := by
    have : r * 2 ^ d * (r * 2 ^ d) < (r' + 1) * (r' + 1) := by rw [sq_pow]; exact Nat.lt_of_le_of_lt (Nat.mul_le_mul_right _ h.1) h'.2
    have := sq_lt this
    omega
  have b2 : r' < (r + 1) * 2 ^ d := by
    refine sq_lt ?_
    rw [sq_pow]
    exact Nat.lt_of_le_of_lt h'.1 ((Nat.mul_lt_mul_right hp).2 h.2)
  by_cases e : r * r = n
  · subst e
    have : r' = r * 2 ^ d := by
      have : r' * r' ≤ r * 2 ^ d * (r * 2 ^ d) := by rw [sq_pow]; exact h'.1
      have := sq_le this
      omega
    subst this
    have hs := nearest_scale false (2 * r) d (P - 1)
    rw [show 2 * r * 2 ^ d = 2 * (r * 2 ^ d) by rw [Nat.mul_assoc], show P - 1 - (d : Int) = P - (d : Int) - 1 by omega] at hs
    simp only [sq_pow, bne_self_eq_false, Bool.toNat_false, Nat.add_zero]
    exact hs
  · have st : (r * r != n).toNat = 1 := by simp [e]
    rw [st]
    have b3 : r' * r' = n * 4 ^ d → r * 2 ^ d < r' := by
      intro hz
      refine sq_lt ?_
      rw [sq_pow, hz]
      exact (Nat.mul_lt_mul_right hp).2 (by have := h.1; omega)
    have c1 := two_scale r d
    have c2 := two_scale (r + 1) d
    have hs := nearest_sticky false r (d + 1) (2 * r' + (r' * r' != n * 4 ^ d).toNat) P hr (by
      by_cases hz : r' * r' = n * 4 ^ d
      · have := b3 hz; rw [hz]; simp only [bne_self_eq_false, Bool.toNat_false]; omega
      · rw [bne_true hz]; omega) (by
      by_cases hz : r' * r' = n * 4 ^ d
      · rw [hz]; simp only [bne_self_eq_false, Bool.toNat_false]; omega
      · rw [bne_true hz]; omega)
    rw [show P - ((d + 1 : Nat) : Int) = P - (d : Int) - 1 by omega] at hs
    exact hs
theorem rootFrom_is (n : Nat) : ∀ todo root, root * root ≤ n → n < (root + 2 ^ todo) * (root + 2 ^ todo) → IsRoot (Datum.rootFrom n todo root) n
  | 0, root, h1, h2 => by
    rw [Nat.pow_zero] at h2
    exact ⟨h1, h2⟩
  | todo + 1, root, h1, h2 => by
    unfold Datum.rootFrom
    rw [Nat.one_shiftLeft]
    have e : root + 2 ^ (todo + 1) = root + 2 ^ todo + 2 ^ todo := by rw [Nat.pow_succ]; omega
    by_cases h : (root + 2 ^ todo) * (root + 2 ^ todo) ≤ n
    · simp only [if_pos h]
      exact rootFrom_is n todo _ h (by rw [← e]; exact h2)
    · simp only [if_neg h]
      exact rootFrom_is n todo _ h1 (by omega)
theorem rootFrom_all (n : Nat) : IsRoot (Datum.rootFrom n (n.log2 / 2 + 1) 0) n := by
  refine rootFrom_is n _ _ (Nat.zero_le _) ?_
  rw [Nat.zero_add, ← Nat.pow_add]
  exact Nat.lt_of_lt_of_le Nat.lt_log2_self (Nat.pow_le_pow_right (by decide) (by omega))
theorem root_one {r r' n : Nat} (h : IsRoot r n) (h' : IsRoot r' n) : r = r' := by
  have a1 := sq_lt (Nat.lt_of_le_of_lt h.1 h'.2)
  have a2 := sq_lt (Nat.lt_of_le_of_lt h'.1 h.2)
  omega
end Go.Proofs.Ytlgnkgcofdjamaa
