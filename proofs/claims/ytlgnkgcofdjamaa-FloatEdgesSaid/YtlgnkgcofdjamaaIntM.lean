/-
  float.Int at every real: what it cuts off, and where it is none.
-/
import Derived.Test.YtlgnkgcofdjamaaTrunc
import Derived.Test.YtlgnkgcofdjamaaDivM
namespace Go.Proofs.Ytlgnkgcofdjamaa
open Ieee Go.RowKit

/-- The whole part's magnitude. -/
def tr (a : Nat) : Nat := mg a * 2 ^ (pl a).toNat / 2 ^ (-(pl a)).toNat
def fitI (a : Nat) : Bool := decide (rg a < inf) && (if sg a then decide (tr a ≤ 9223372036854775808) else decide (tr a < 9223372036854775808))
def intV (a : Nat) : Int := if sg a then -(tr a : Int) else (tr a : Int)
theorem V_mg (a : Nat) : V (rg a) = mg a * 2 ^ (pl a + 1074).toNat := by
  unfold V mg pl
  by_cases h : rg a < 2 ^ 52
  · simp only [if_pos h]; simp
  · simp only [if_neg h]
    have e : (-1074 + ((rg a / 2 ^ 52 - 1 : Nat) : Int) + 1074).toNat = rg a / 2 ^ 52 - 1 := by omega
    rw [e]
theorem tr_V (a : Nat) : (tr a ≤ 9223372036854775808 ↔ V (rg a) ≤ 2 ^ 63 * U) ∧ (tr a < 9223372036854775808 ↔ V (rg a) < 2 ^ 63 * U) := by
  have hU : U = 2 ^ 1074 := by unfold U; rfl
  have hm := mg_lt a
  have hl := pl_low a
  rw [V_mg]
  unfold tr
  by_cases h : 0 < pl a
  · have e1 : (-(pl a)).toNat = 0 := by omega
    have e2 : (pl a + 1074).toNat = (pl a).toNat + 1074 := by omega
    rw [e1, e2, Nat.pow_zero, Nat.div_one, Nat.pow_add, ← Nat.mul_assoc, ← hU]
    have hp : 0 < U := U_pos
    generalize U = u at hp
    generalize mg a * 2 ^ (pl a).toNat = t
    have e3 : (2 : Nat) ^ 63 = 9223372036854775808 := rfl
    rw [e3]
    exact ⟨(Nat.mul_le_mul_right_iff hp).symm, (Nat.mul_lt_mul_right hp).symm⟩
  · have e1 : (pl a).toNat = 0 := by omega
    have e2 : (pl a + 1074).toNat ≤ 1074 := by omega
    have h1 : mg a * 2 ^ (pl a).toNat / 2 ^ (-(pl a)).toNat ≤ mg a := by
      rw [e1, Nat.pow_zero, Nat.mul_one]; exact Nat.div_le_self _ _
    have key : ∀ k : Nat, (pl a + 1074).toNat ≤ k → 2 ^ (pl a + 1074).toNat ≤ 2 ^ k := fun k h => Nat.pow_le_pow_right (by decide) h
    have hle := key 1074 e2
    rw [← hU] at hle
    have hmm : mg a < 2 ^ 63 := Nat.lt_trans hm (by decide)
    have h2 : mg a * 2 ^ (pl a + 1074).toNat < 2 ^ 63 * U := Nat.lt_of_le_of_lt (Nat.mul_le_mul_left (mg a) hle) ((Nat.mul_lt_mul_right U_pos).2 hmm)
    exact ⟨⟨fun _ => Nat.le_of_lt h2, fun _ => by omega⟩, ⟨fun _ => h2, fun _ => by omega⟩⟩
theorem val_C1 : val C1 = -((2 ^ 63 * U : Nat) : Int) := by
  unfold val
  rw [if_pos (by decide), V_C1]
theorem val_C2 : val C2 = ((2 ^ 63 * U : Nat) : Int) := by
  unfold val
  rw [if_neg (by decide), V_C2]
theorem fin_low (a : Nat) (h : rg a < inf) : (orderIs .gt a C1 || orderIs .eq a C1) = (if sg a then decide (tr a ≤ 9223372036854775808) else true) := by
  have ho : double.order a C1 = some (compare (val a) (val C1)) := order_fin a C1 h (by decide)
  unfold orderIs
  show ((double.order a C1 == some .gt) || (double.order a C1 == some .eq)) = _
  rw [ho]
  have hv : (if sg a then decide (tr a ≤ 9223372036854775808) else true) = decide (val C1 ≤ val a) := by
    rw [val_C1]
    unfold val
    cases sg a with
    | true =>
      simp only [if_true]
      rw [decide_eq_decide, (tr_V a).1]
      omega
    | false =>
      simp only [Bool.false_eq_true, if_false]
      rw [decide_eq_true (by omega)]
  rw [hv]
  rcases Int.lt_trichotomy (val a) (val C1) with h1 | h1 | h1
  · rw [cmp_lt h1, decide_eq_false (by omega)]; rfl
  · rw [cmp_eq h1, decide_eq_true (by omega)]; rfl
  · rw [cmp_gt h1, decide_eq_true (by omega)]; rfl
theorem fin_high (a : Nat) (h : rg a < inf) : orderIs .lt a C2 = (if sg a then true else decide (tr a < 9223372036854775808)) := by
  have ho : double.order a C2 = some (compare (val a) (val C2)) := order_fin a C2 h (by decide)
  unfold orderIs
  show (double.order a C2 == some .lt) = _
  rw [ho]
  have hv : (if sg a then true else decide (tr a < 9223372036854775808)) = decide (val a < val C2) := by
    rw [val_C2]
    unfold val
    have hp : 0 < 2 ^ 63 * U := Nat.mul_pos (Nat.two_pow_pos _) U_pos
    cases sg a with
    | true =>
      simp only [if_true]
      rw [decide_eq_true (by omega)]
    | false =>
      simp only [Bool.false_eq_true, if_false]
      rw [decide_eq_decide, (tr_V a).2]
      omega
  rw [hv]
  rcases Int.lt_trichotomy (val a) (val C2) with h1 | h1 | h1
  · rw [cmp_lt h1, decide_eq_true (by omega)]; rfl
  · rw [cmp_eq h1, decide_eq_false (by omega)]; rfl
  · rw [cmp_gt h1, decide_eq_false (by omega)]; rfl
theorem trunc_any (a : Nat) (h : fitI a = true) : floatToIntVal .f64 a .i64 = some (intV a) := by
  unfold fitI at h
  rw [Bool.and_eq_true, decide_eq_true_eq] at h
  obtain ⟨hf, h⟩ := h
  unfold floatToIntVal
  show (match (double.read a).toInt .zero with | some n => if IntKind.i64.min ≤ n ∧ n ≤ IntKind.i64.max then some n else none | none => none) = some (intV a)
  rw [read_mg a hf]
  have ht : (Datum.number (sg a) (mg a) (pl a)).toInt .zero = some (intV a) := by
    unfold Datum.toInt Datum.integral
    simp only [cut_zero, Nat.shiftLeft_eq]
    refine congrArg some ?_
    unfold signed intV tr
    rw [Nat.shiftLeft_zero]
  rw [ht]
  have hmin : IntKind.i64.min = -9223372036854775808 := rfl
  have hmax : IntKind.i64.max = 9223372036854775807 := rfl
  show (if IntKind.i64.min ≤ intV a ∧ intV a ≤ IntKind.i64.max then some (intV a) else none) = some (intV a)
  rw [if_pos]
  unfold intV
  cases hs : sg a with
  | true =>
    rw [hs] at h
    simp only [if_true, decide_eq_true_eq] at h ⊢
    omega
  | false =>
    rw [hs] at h
    simp only [Bool.false_eq_true, if_false, decide_eq_true_eq] at h ⊢
    omega
/-- What Int tells. -/
def intR (a : Nat) : Int := if fitI a then intV a else 0
theorem int_any (w : World) (a : Nat) : Calls Try.prog 8 #[.int .u64 a] w fun e w' => e = .returned (.tuple #[.int .i64 (intR a), .bool (fitI a)]) ∧ w = w' := by
  unfold intR
  by_cases hn : isNone a
  · have hf : fitI a = false := by
      unfold fitI isNone at *
      rw [decide_eq_false (by omega), Bool.false_and]
    rw [hf]
    refine int_low w a ?_
    unfold orderIs
    show ((double.order a C1 == some .gt) || (double.order a C1 == some .eq)) = false
    rw [order_none a C1 (.inl hn)]; rfl
  · by_cases hi : rg a < inf
    · by_cases hf : fitI a = true
      · rw [hf]
        have ht := trunc_any a hf
        unfold fitI at hf
        rw [Bool.and_eq_true] at hf
        have h2 := hf.2
        refine int_in w a (intV a) ?_ ?_ ht
        · rw [fin_low a hi]; cases hs : sg a <;> simp_all
        · rw [fin_high a hi]; cases hs : sg a <;> simp_all
      · have hf' : fitI a = false := by simpa using hf
        rw [hf']
        unfold fitI at hf'
        rw [decide_eq_true hi, Bool.true_and] at hf'
        cases hs : sg a with
        | true =>
          rw [hs, if_pos rfl] at hf'
          exact int_low w a (by rw [fin_low a hi, hs, if_pos rfl, hf'])
        | false =>
          rw [hs, if_neg (by simp)] at hf'
          exact int_high w a (by rw [fin_low a hi, hs, if_neg (by simp)]) (by rw [fin_high a hi, hs, if_neg (by simp), hf'])
    · have he : rg a = inf := by unfold isNone at hn; omega
      have hf : fitI a = false := by
        unfold fitI
        rw [decide_eq_false hi, Bool.false_and]
      rw [hf]
      have hk : key a = if sg a then -(inf : Int) else (inf : Int) := by unfold key; rw [he]
      have k1 : key C1 = -4890909195324358656 := by decide
      have k2 : key C2 = 4890909195324358656 := by decide
      have hinf : (inf : Int) = 9218868437227405312 := rfl
      cases hs : sg a with
      | true =>
        rw [hs, if_pos rfl] at hk
        refine int_low w a ?_
        unfold orderIs
        show ((double.order a C1 == some .gt) || (double.order a C1 == some .eq)) = false
        rw [order_some a C1 hn (by decide), cmp_lt (by omega)]; rfl
      | false =>
        rw [hs, if_neg (by simp)] at hk
        refine int_high w a ?_ ?_
        · unfold orderIs
          show ((double.order a C1 == some .gt) || (double.order a C1 == some .eq)) = true
          rw [order_some a C1 hn (by decide), cmp_gt (by omega)]; rfl
        · unfold orderIs
          show (double.order a C2 == some .lt) = false
          rw [order_some a C2 hn (by decide), cmp_gt (by omega)]; rfl
end Go.Proofs.Ytlgnkgcofdjamaa
