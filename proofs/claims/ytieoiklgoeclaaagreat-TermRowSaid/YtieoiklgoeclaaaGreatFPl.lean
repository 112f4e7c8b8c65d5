/-
  float.Order as plain mathematics of the bits: one order; what is told is that of places.
-/
import Derived.Test.YtieoiklgoeclaaaGreatFOrder
namespace Go.Proofs.YtieoiklgoeclaaaGreat
open Ieee

theorem orderB_turn (a b : Nat) : orderB a b = - orderB b a := by
  unfold orderB
  by_cases h1 : pos a < pos b
  · rw [if_pos h1, if_neg (by omega), if_neg (by omega)]
  · rw [if_neg h1]
    by_cases h2 : pos a = pos b
    · rw [if_pos h2, if_neg (by omega), if_pos h2.symm]; rfl
    · rw [if_neg h2, if_pos (by omega)]; rfl
theorem orderB_range (a b : Nat) : -1 ≤ orderB a b ∧ orderB a b ≤ 1 := by
  unfold orderB
  split
  · decide
  · split <;> decide
theorem orderB_neg (a b : Nat) : orderB a b < 0 ↔ pos a < pos b := by
  unfold orderB
  by_cases h1 : pos a < pos b
  · rw [if_pos h1]; exact ⟨fun _ => h1, fun _ => by decide⟩
  · rw [if_neg h1]
    refine ⟨fun h => ?_, fun h => absurd h h1⟩
    split at h <;> omega
theorem orderB_zero (a b : Nat) : orderB a b = 0 ↔ pos a = pos b := by
  unfold orderB
  by_cases h1 : pos a < pos b
  · rw [if_pos h1]; exact ⟨fun h => by omega, fun h => by omega⟩
  · rw [if_neg h1]
    by_cases h2 : pos a = pos b
    · rw [if_pos h2]; exact ⟨fun _ => h2, fun _ => rfl⟩
    · rw [if_neg h2]; exact ⟨fun h => by omega, fun h => absurd h h2⟩
theorem orderB_le (a b : Nat) : orderB a b ≤ 0 ↔ pos a ≤ pos b := by
  have h1 := orderB_neg a b
  have h2 := orderB_zero a b
  omega
theorem orderB_trans (a b c : Nat) (h1 : orderB a b ≤ 0) (h2 : orderB b c ≤ 0) : orderB a c ≤ 0 := by
  rw [orderB_le] at *; omega
theorem pos_canon (a b : Nat) (ha : a < 2 ^ 64) (hb : b < 2 ^ 64) : pos a = pos b ↔ canonB a = canonB b := by
  have ea := mk_of a ha
  have eb := mk_of b hb
  unfold pos canonB
  by_cases na : isNone a
  · by_cases nb : isNone b
    · simp [na, nb]
    · rw [if_pos na, if_pos na, if_neg nb, if_neg nb]
      have h1 : rg b ≤ inf := by unfold isNone at nb; omega
      refine ⟨fun h => ?_, fun h => ?_⟩
      · split at h <;> omega
      · exact absurd (h ▸ none_NAN) nb
  · have h0 : rg a ≤ inf := by unfold isNone at na; omega
    by_cases nb : isNone b
    · rw [if_neg na, if_neg na, if_pos nb, if_pos nb]
      refine ⟨fun h => ?_, fun h => ?_⟩
      · split at h <;> omega
      · exact absurd (h ▸ none_NAN) na
    · rw [if_neg na, if_neg na, if_neg nb, if_neg nb]
      refine ⟨fun h => ?_, fun h => ?_⟩
      · rw [← ea, ← eb]
        cases sa : sg a <;> cases sb : sg b <;> simp [sa, sb] at h
        · rw [show rg a = rg b by omega]
        · omega
        · omega
        · rw [show rg a = rg b by omega]
      · subst h; rfl
theorem less_key (a b : Nat) : lessB a b = true ↔ ¬ isNone a ∧ ¬ isNone b ∧ key a < key b := by
  unfold lessB
  rw [decide_eq_true_eq]
  by_cases na : isNone a
  · rw [order_none a b (.inl na)]; simp [na]
  · by_cases nb : isNone b
    · rw [order_none a b (.inr nb)]; simp [nb]
    · rw [order_some a b na nb]
      refine ⟨fun h => ⟨na, nb, ?_⟩, fun h => by rw [cmp_lt h.2.2]⟩
      rcases Int.lt_trichotomy (key a) (key b) with k | k | k
      · exact k
      · rw [cmp_eq k] at h; cases h
      · rw [cmp_gt k] at h; cases h
theorem same_key (a b : Nat) : sameB a b = true ↔ ¬ isNone a ∧ ¬ isNone b ∧ key a = key b := by
  unfold sameB
  rw [decide_eq_true_eq]
  by_cases na : isNone a
  · rw [order_none a b (.inl na)]; simp [na]
  · by_cases nb : isNone b
    · rw [order_none a b (.inr nb)]; simp [nb]
    · rw [order_some a b na nb]
      refine ⟨fun h => ⟨na, nb, ?_⟩, fun h => by rw [cmp_eq h.2.2]⟩
      rcases Int.lt_trichotomy (key a) (key b) with k | k | k
      · rw [cmp_lt k] at h; cases h
      · exact k
      · rw [cmp_gt k] at h; cases h
theorem canon_nan (a : Nat) (ha : canonB a = NAN) : isNone a := by
  unfold canonB at ha
  by_cases h : isNone a
  · exact h
  · rw [if_neg h] at ha; rw [ha]; exact none_NAN
theorem nan_canon (a : Nat) (h : isNone a) : canonB a = NAN := by unfold canonB; rw [if_pos h]
/-- What Less says of places. -/
theorem less_pos (a b : Nat) (na : ¬ isNone a) (nb : ¬ isNone b) : lessB a b = true ↔ pos a < pos b ∧ ¬ (rg a = 0 ∧ rg b = 0) := by
  rw [less_key]
  have h : (¬ isNone a ∧ ¬ isNone b ∧ key a < key b) ↔ key a < key b := ⟨fun h => h.2.2, fun h => ⟨na, nb, h⟩⟩
  rw [h]
  unfold key pos
  rw [if_neg na, if_neg nb]
  cases sg a <;> cases sg b <;> simp <;> omega
theorem same_pos (a b : Nat) (na : ¬ isNone a) (nb : ¬ isNone b) : sameB a b = true ↔ pos a = pos b ∨ (rg a = 0 ∧ rg b = 0) := by
  rw [same_key]
  have h : (¬ isNone a ∧ ¬ isNone b ∧ key a = key b) ↔ key a = key b := ⟨fun h => h.2.2, fun h => ⟨na, nb, h⟩⟩
  rw [h]
  unfold key pos
  rw [if_neg na, if_neg nb]
  cases sg a <;> cases sg b <;> simp <;> omega

/-! ## Sums by the same real -/
open Go.RowKit
theorem places_lt (s t : Bool) (r q : Nat) (h : (if s then -(r : Int) else (r : Int)) < if t then -(q : Int) else (q : Int)) : (if s then -1 - (r : Int) else (r : Int)) < if t then -1 - (q : Int) else (q : Int) := by
  cases s <;> cases t <;> simp only [Bool.false_eq_true, if_false, if_true] at h ⊢ <;> omega
theorem wrapI_mk (s : Bool) (r : Nat) (h : r < 2 ^ 63) : wrapI (mk s r) = if s then (r : Int) - (2 ^ 63 : Int) else (r : Int) := by
  unfold wrapI mk
  rw [IntKind.wrap_i64]
  cases s
  · simp only [Bool.false_eq_true, if_false]; omega
  · simp only [if_true]; omega
theorem places_eq (s t : Bool) (r q : Nat) (h : (if s then -(r : Int) else (r : Int)) = if t then -(q : Int) else (q : Int)) :
    cmpI (if s then (r : Int) - (2 ^ 63 : Int) else (r : Int)) (if t then (q : Int) - (2 ^ 63 : Int) else (q : Int)) =
      if (if s then -1 - (r : Int) else (r : Int)) < (if t then -1 - (q : Int) else (q : Int)) then -1 else if (if s then -1 - (r : Int) else (r : Int)) = (if t then -1 - (q : Int) else (q : Int)) then 0 else 1 := by
  unfold cmpI
  cases s <;> cases t <;> simp only [Bool.false_eq_true, if_false, if_true] at h ⊢
  · rw [show r = q by omega]; simp
  · have h1 : r = 0 := by omega
    have h2 : q = 0 := by omega
    rw [h1, h2]; decide
  · have h1 : r = 0 := by omega
    have h2 : q = 0 := by omega
    rw [h1, h2]; decide
  · rw [show r = q by omega]; simp
theorem ordC_eq (a b : Nat) (ha : a < 2 ^ 64) (hb : b < 2 ^ 64) : ordC a b = orderB a b := by
  unfold ordC orderB
  by_cases na : isNone a
  · rw [show noneB a = true from decide_eq_true na, Bool.true_or, if_pos rfl]
    unfold cmpF pos
    rw [show noneB a = true from decide_eq_true na, if_pos na]
    by_cases nb : isNone b
    · rw [show noneB b = true from decide_eq_true nb, if_pos nb]
      simp
    · rw [show noneB b = false from decide_eq_false nb, if_neg nb]
      have h2 : rg b ≤ inf := by unfold isNone at nb; omega
      simp only [Bool.false_eq_true, if_false, if_true]
      rw [if_neg (by split <;> omega), if_neg (by split <;> omega)]
  · by_cases nb : isNone b
    · rw [show noneB b = true from decide_eq_true nb, Bool.or_true, if_pos rfl]
      unfold cmpF pos
      rw [show noneB b = true from decide_eq_true nb, if_pos nb, show noneB a = false from decide_eq_false na, if_neg na]
      have h2 : rg a ≤ inf := by unfold isNone at na; omega
      simp only [Bool.false_eq_true, if_false, if_true]
      rw [if_pos (by split <;> omega)]
    · rw [show noneB a = false from decide_eq_false na, show noneB b = false from decide_eq_false nb, Bool.or_self, if_neg (by simp)]
      have ea := mk_of a ha
      have eb := mk_of b hb
      have ra := rg_lt a
      have rb := rg_lt b
      have ho : ∀ o, orderIs o a b = (compare (key a) (key b) == o) := fun o => by
        unfold orderIs
        show (Ieee.double.order a b == some o) = _
        rw [order_some a b na nb]
        cases compare (key a) (key b) <;> cases o <;> rfl
      unfold ordIn cmpF
      rw [ho, ho, ho, show noneB a = false from decide_eq_false na, show noneB b = false from decide_eq_false nb]
      have pa : pos a = if sg a then -1 - (rg a : Int) else rg a := by unfold pos; rw [if_neg na]
      have pb : pos b = if sg b then -1 - (rg b : Int) else rg b := by unfold pos; rw [if_neg nb]
      have ka : key a = if sg a then -(rg a : Int) else rg a := rfl
      have kb : key b = if sg b then -(rg b : Int) else rg b := rfl
      rcases Int.lt_trichotomy (key a) (key b) with h | h | h
      · rw [cmp_lt h, if_pos (show pos a < pos b by rw [pa, pb]; rw [ka, kb] at h; exact places_lt _ _ _ _ h)]
        rfl
      · rw [cmp_eq h]
        show cmpI (wrapI a) (wrapI b) = _
        have wa := wrapI_mk (sg a) (rg a) ra
        have wb := wrapI_mk (sg b) (rg b) rb
        rw [ea] at wa
        rw [eb] at wb
        rw [ka, kb] at h
        rw [wa, wb, pa, pb]
        exact places_eq _ _ _ _ h
      · have hp : pos b < pos a := by rw [pa, pb]; rw [ka, kb] at h; exact places_lt _ _ _ _ h
        have hR : (if pos a < pos b then (-1 : Int) else if pos a = pos b then 0 else 1) = 1 := by rw [if_neg (by omega), if_neg (by omega)]
        rw [cmp_gt h, hR]
        rfl
end Go.Proofs.YtieoiklgoeclaaaGreat
