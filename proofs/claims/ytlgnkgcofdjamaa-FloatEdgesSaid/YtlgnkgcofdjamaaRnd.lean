/-
  How the document's own rounding comes to the nearest real: by the number's length, the bit behind the last one, and what is lost. Plain mathematics.
-/
import Derived.Test.YtlgnkgcofdjamaaForms
namespace Go.Proofs.Ytlgnkgcofdjamaa
open Ieee

/-- The nearest real of N, or of somewhat more than N. -/
def near (neg : Bool) (N : Nat) (E : Int) (more : Bool) : Nat := if more then double.nearest neg (2 * N + 1) (E - 1) else double.nearest neg N E
/-- How many bits are dropped. -/
def dropOf (N : Nat) (E : Int) : Int := max ((N.log2 : Int) + 1 - 53) (-1074 - E)
/-- What is kept, where D + 1 bits are dropped. -/
def keptD (N D : Nat) (more : Bool) : Nat := N / 2 ^ D / 2 + (decide (N / 2 ^ D % 2 = 1) && ((decide (N % 2 ^ D ≠ 0) || more) || decide (N / 2 ^ D / 2 % 2 = 1))).toNat
def asm (neg : Bool) (kept : Nat) (last : Int) : Nat := mk neg (min ((last + 1074).toNat * 2 ^ 52 + kept) inf)

theorem mod_next (N D : Nat) : N % 2 ^ (D + 1) = N % 2 ^ D + 2 ^ D * (N / 2 ^ D % 2) := by
  rw [Nat.pow_succ, Nat.mod_mul]
theorem div_next (N D : Nat) : N / 2 ^ (D + 1) = N / 2 ^ D / 2 := by
  rw [Nat.pow_succ, Nat.div_div_eq_div_mul]
theorem rhe_kept (N D : Nat) : rhe N (D + 1) = keptD N D false := by
  unfold rhe keptD
  rw [mod_next, div_next]
  congr 2
  have hl := Nat.mod_lt N (Nat.two_pow_pos D)
  have e : 2 ^ (D + 1) = 2 * 2 ^ D := by rw [Nat.pow_succ]; omega
  rw [e]
  generalize N % 2 ^ D = l at hl ⊢
  have ht : N / 2 ^ D % 2 = 0 ∨ N / 2 ^ D % 2 = 1 := by omega
  generalize 2 ^ D = H at hl ht ⊢
  rcases ht with ht | ht
  · rw [ht, Nat.mul_zero, Nat.add_zero]
    have c1 : ¬ 2 * H < 2 * l := by omega
    have c2 : ¬ 2 * H = 2 * l := by omega
    simp [c1, c2]
  · rw [ht, Nat.mul_one]
    by_cases h0 : l = 0
    · subst h0
      have c1 : ¬ 2 * H < 2 * (0 + H) := by omega
      simp
    · have c1 : 2 * H < 2 * (l + H) := by omega
      simp [c1, h0]
theorem more_kept (N D : Nat) : N / 2 ^ (D + 1) + (decide (2 ^ D ≤ N % 2 ^ (D + 1))).toNat = keptD N D true := by
  unfold keptD
  rw [mod_next, div_next]
  congr 2
  have hl := Nat.mod_lt N (Nat.two_pow_pos D)
  generalize N % 2 ^ D = l at hl ⊢
  have ht : N / 2 ^ D % 2 = 0 ∨ N / 2 ^ D % 2 = 1 := by omega
  generalize 2 ^ D = H at hl ht ⊢
  rcases ht with ht | ht
  · rw [ht, Nat.mul_zero, Nat.add_zero]
    have c1 : ¬ H ≤ l := by omega
    simp [c1]
  · rw [ht, Nat.mul_one]
    have c1 : H ≤ l + H := by omega
    simp [c1]
/-- No bit is dropped. -/
theorem near_left (neg : Bool) (N : Nat) (E : Int) (h0 : N ≠ 0) (hd : dropOf N E ≤ 0) : near neg N E false = asm neg (N * 2 ^ (-dropOf N E).toNat) (E + dropOf N E) := by
  unfold near asm
  simp only [Bool.false_eq_true, if_false]
  rw [nearest_def neg N E (E + dropOf N E) h0 (by unfold dropOf; omega)]
  have e1 : (E - (E + dropOf N E)).toNat = (-dropOf N E).toNat := by omega
  have e2 : (E + dropOf N E - E).toNat = 0 := by omega
  rw [e1, e2, rhe_zero]
/-- Some are. -/
theorem near_right (neg : Bool) (N : Nat) (E : Int) (more : Bool) (h0 : N ≠ 0) (hm : more = true → 2 ^ 53 ≤ N) (D : Nat) (hd : dropOf N E = D + 1) : near neg N E more = asm neg (keptD N D more) (E + dropOf N E) := by
  unfold near asm
  cases more with
  | false =>
    simp only [Bool.false_eq_true, if_false]
    rw [nearest_def neg N E (E + dropOf N E) h0 (by unfold dropOf; omega)]
    have e1 : (E - (E + dropOf N E)).toNat = 0 := by omega
    have e2 : (E + dropOf N E - E).toNat = D + 1 := by omega
    rw [e1, e2, Nat.pow_zero, Nat.mul_one, rhe_kept]
  | true =>
    simp only [if_true]
    have l2 : (2 * N + 1).log2 = N.log2 + 1 := log2_between (j := 1) h0 (by omega) (by omega)
    rw [nearest_def neg (2 * N + 1) (E - 1) (E + dropOf N E) (by omega) (by rw [l2]; unfold dropOf; omega)]
    have e1 : (E - 1 - (E + dropOf N E)).toNat = 0 := by omega
    have e2 : (E + dropOf N E - (E - 1)).toNat = D + 1 + 1 := by omega
    rw [e1, e2, Nat.pow_zero, Nat.mul_one, rhe_between N 1 (2 * N + 1) D (by omega) (by omega), more_kept]
theorem more_drops (N : Nat) (E : Int) (h : 2 ^ 53 ≤ N) : 0 < dropOf N E := by
  have : 53 ≤ N.log2 := (Nat.le_log2 (by omega)).2 h
  unfold dropOf
  omega
theorem left_lt (N : Nat) (E : Int) (hd : dropOf N E ≤ 0) : N * 2 ^ (-dropOf N E).toNat < 2 ^ 53 := by
  have h1 : N < 2 ^ (N.log2 + 1) := Nat.lt_log2_self
  have h2 : N.log2 + 1 + (-dropOf N E).toNat ≤ 53 := by unfold dropOf at *; omega
  refine Nat.lt_of_lt_of_le ((Nat.mul_lt_mul_right (Nat.two_pow_pos _)).2 h1) ?_
  rw [← Nat.pow_add]
  exact Nat.pow_le_pow_right (by decide) h2
theorem left_low (N : Nat) (E : Int) (h0 : N ≠ 0) (hd : dropOf N E ≤ 0) (h : N * 2 ^ (-dropOf N E).toNat < 2 ^ 52) : E + dropOf N E = -1074 := by
  by_cases e : E + dropOf N E = -1074
  · exact e
  · have h1 := Nat.log2_self_le h0
    have h2 : N.log2 + (-dropOf N E).toNat = 52 := by unfold dropOf at *; omega
    have : 2 ^ 52 ≤ N * 2 ^ (-dropOf N E).toNat := by
      rw [← h2, Nat.pow_add]
      exact Nat.mul_le_mul_right _ h1
    omega
theorem shift_lt (N D : Nat) (E : Int) (hd : dropOf N E = D + 1) : N / 2 ^ D < 2 ^ 54 := by
  have h1 : N < 2 ^ (N.log2 + 1) := Nat.lt_log2_self
  have h2 : N.log2 + 1 ≤ 54 + D := by unfold dropOf at *; omega
  rw [Nat.div_lt_iff_lt_mul (Nat.two_pow_pos _), ← Nat.pow_add]
  exact Nat.lt_of_lt_of_le h1 (Nat.pow_le_pow_right (by decide) h2)
theorem kept_le (N D : Nat) (E : Int) (more : Bool) (hd : dropOf N E = D + 1) : keptD N D more ≤ 2 ^ 53 := by
  have := shift_lt N D E hd
  have hb : ∀ b : Bool, b.toNat ≤ 1 := fun b => by cases b <;> simp
  unfold keptD
  have := hb (decide (N / 2 ^ D % 2 = 1) && ((decide (N % 2 ^ D ≠ 0) || more) || decide (N / 2 ^ D / 2 % 2 = 1)))
  omega
theorem kept_low (N D : Nat) (E : Int) (more : Bool) (h0 : N ≠ 0) (hd : dropOf N E = D + 1) (h : keptD N D more < 2 ^ 52) : E + dropOf N E = -1074 := by
  by_cases e : E + dropOf N E = -1074
  · exact e
  · have h1 := Nat.log2_self_le h0
    have h2 : N.log2 = 53 + D := by unfold dropOf at *; omega
    have : 2 ^ 53 ≤ N / 2 ^ D := by
      rw [Nat.le_div_iff_mul_le (Nat.two_pow_pos _), ← Nat.pow_add, ← h2]
      exact h1
    unfold keptD at h
    omega
theorem last_low (N : Nat) (E : Int) : -1074 ≤ E + dropOf N E := by unfold dropOf; omega
theorem mk_congr (neg : Bool) {a b : Nat} (h : a = b) : mk neg a = mk neg b := by rw [h]
theorem asm_low (neg : Bool) (kept : Nat) (last : Int) (h : kept < 2 ^ 52) (hl : last = -1074) : asm neg kept last = mk neg kept := by
  subst hl
  unfold asm inf
  refine mk_congr neg ?_
  simp only [Int.add_left_neg, Int.toNat_zero]
  omega
theorem asm_carry (neg : Bool) (last : Int) (hl : -1074 ≤ last) : asm neg (2 ^ 53) last = asm neg (2 ^ 52) (last + 1) := by
  unfold asm
  have : (last + 1 + 1074).toNat = (last + 1074).toNat + 1 := by omega
  rw [this]
  refine mk_congr neg ?_
  omega
theorem asm_inf (neg : Bool) (kept : Nat) (last : Int) (h : 2 ^ 52 ≤ kept) (hl : 2047 ≤ last + 1075) : asm neg kept last = mk neg inf := by
  unfold asm
  refine mk_congr neg ?_
  have : 2046 ≤ (last + 1074).toNat := by omega
  have := Nat.mul_le_mul_right (2 ^ 52) this
  unfold inf
  omega
theorem asm_mid (neg : Bool) (kept : Nat) (last : Int) (h : 2 ^ 52 ≤ kept) (h2 : kept < 2 ^ 53) (h0 : -1074 ≤ last) (hl : last + 1075 < 2047) (e : Nat) (he : (e : Int) = last + 1075) : asm neg kept last = mk neg (e * 2 ^ 52 + kept % 2 ^ 52) ∧ e * 2 ^ 52 + kept % 2 ^ 52 < inf ∧ e < 2047 := by
  have e1 : (last + 1074).toNat = e - 1 := by omega
  have e2 : kept % 2 ^ 52 = kept - 2 ^ 52 := by omega
  unfold asm inf
  rw [e1, e2]
  refine ⟨mk_congr neg ?_, by omega, by omega⟩
  omega
end Go.Proofs.Ytlgnkgcofdjamaa
