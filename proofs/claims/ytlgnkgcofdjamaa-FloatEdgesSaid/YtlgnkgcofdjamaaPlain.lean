/-
  What follows of float's orders and sums, as plain mathematics of the bits. No condition but words of 64 bits.
-/
import Derived.Test.YtlgnkgcofdjamaaOps
namespace Go.Proofs.Ytlgnkgcofdjamaa
open Ieee

theorem orderB_turn (a b : Nat) : orderB a b = - orderB b a := by
  unfold orderB
  by_cases h1 : pos a < pos b
  · rw [if_pos h1, if_neg (by omega), if_neg (by omega)]
  · rw [if_neg h1]
    by_cases h2 : pos a = pos b
    · rw [if_pos h2, if_neg (by omega), if_pos h2.symm]; rfl
    · rw [if_neg h2, if_pos (by omega)]; rfl
theorem orderB_range (a b : Nat) : -1 ≤ orderB a b ∧ orderB a b ≤ 1 := by
  unfold orderB
  split
  · decide
  · split <;> decide
theorem orderB_neg (a b : Nat) : orderB a b < 0 ↔ pos a < pos b := by
  unfold orderB
  by_cases h1 : pos a < pos b
  · rw [if_pos h1]; exact ⟨fun _ => h1, fun _ => by decide⟩
  · rw [if_neg h1]
    refine ⟨fun h => ?_, fun h => absurd h h1⟩
    split at h <;> omega
theorem orderB_zero (a b : Nat) : orderB a b = 0 ↔ pos a = pos b := by
  unfold orderB
  by_cases h1 : pos a < pos b
  · rw [if_pos h1]; exact ⟨fun h => by omega, fun h => by omega⟩
  · rw [if_neg h1]
    by_cases h2 : pos a = pos b
    · rw [if_pos h2]; exact ⟨fun _ => h2, fun _ => rfl⟩
    · rw [if_neg h2]; exact ⟨fun h => by omega, fun h => absurd h h2⟩
theorem orderB_le (a b : Nat) : orderB a b ≤ 0 ↔ pos a ≤ pos b := by
  have h1 := orderB_neg a b
  have h2 := orderB_zero a b
  omega
theorem orderB_trans (a b c : Nat) (h1 : orderB a b ≤ 0) (h2 : orderB b c ≤ 0) : orderB a c ≤ 0 := by
  rw [orderB_le] at *; omega
theorem pos_canon (a b : Nat) (ha : a < 2 ^ 64) (hb : b < 2 ^ 64) : pos a = pos b ↔ canonB a = canonB b := by
  have ea := mk_of a ha
  have eb := mk_of b hb
  unfold pos canonB
  by_cases na : isNone a
  · by_cases nb : isNone b
    · simp [na, nb]
    · rw [if_pos na, if_pos na, if_neg nb, if_neg nb]
      have h1 : rg b ≤ inf := by unfold isNone at nb; omega
      refine ⟨fun h => ?_, fun h => ?_⟩
      · split at h <;> omega
      · exact absurd (h ▸ none_NAN) nb
  · have h0 : rg a ≤ inf := by unfold isNone at na; omega
    by_cases nb : isNone b
    · rw [if_neg na, if_neg na, if_pos nb, if_pos nb]
      refine ⟨fun h => ?_, fun h => ?_⟩
      · split at h <;> omega
      · exact absurd (h ▸ none_NAN) na
    · rw [if_neg na, if_neg na, if_neg nb, if_neg nb]
      refine ⟨fun h => ?_, fun h => ?_⟩
      · rw [← ea, ← eb]
        cases sa : sg a <;> cases sb : sg b <;> simp [sa, sb] at h
        · rw [show rg a = rg b by omega]
        · omega
        · omega
        · rw [show rg a = rg b by omega]
      · subst h; rfl
theorem less_key (a b : Nat) : lessB a b = true ↔ ¬ isNone a ∧ ¬ isNone b ∧ key a < key b := by
  unfold lessB
  rw [decide_eq_true_eq]
  by_cases na : isNone a
  · rw [order_none a b (.inl na)]; simp [na]
  · by_cases nb : isNone b
    · rw [order_none a b (.inr nb)]; simp [nb]
    · rw [order_some a b na nb]
      refine ⟨fun h => ⟨na, nb, ?_⟩, fun h => by rw [cmp_lt h.2.2]⟩
      rcases Int.lt_trichotomy (key a) (key b) with k | k | k
      · exact k
      · rw [cmp_eq k] at h; cases h
      · rw [cmp_gt k] at h; cases h
theorem same_key (a b : Nat) : sameB a b = true ↔ ¬ isNone a ∧ ¬ isNone b ∧ key a = key b := by
  unfold sameB
  rw [decide_eq_true_eq]
  by_cases na : isNone a
  · rw [order_none a b (.inl na)]; simp [na]
  · by_cases nb : isNone b
    · rw [order_none a b (.inr nb)]; simp [nb]
    · rw [order_some a b na nb]
      refine ⟨fun h => ⟨na, nb, ?_⟩, fun h => by rw [cmp_eq h.2.2]⟩
      rcases Int.lt_trichotomy (key a) (key b) with k | k | k
      · rw [cmp_lt k] at h; cases h
      · exact k
      · rw [cmp_gt k] at h; cases h
theorem canon_nan (a : Nat) (ha : canonB a = NAN) : isNone a := by
  unfold canonB at ha
  by_cases h : isNone a
  · exact h
  · rw [if_neg h] at ha; rw [ha]; exact none_NAN
theorem nan_canon (a : Nat) (h : isNone a) : canonB a = NAN := by unfold canonB; rw [if_pos h]
/-- What Less says of places. -/
theorem less_pos (a b : Nat) (na : ¬ isNone a) (nb : ¬ isNone b) : lessB a b = true ↔ pos a < pos b ∧ ¬ (rg a = 0 ∧ rg b = 0) := by
  rw [less_key]
  have h : (¬ isNone a ∧ ¬ isNone b ∧ key a < key b) ↔ key a < key b := ⟨fun h => h.2.2, fun h => ⟨na, nb, h⟩⟩
  rw [h]
  unfold key pos
  rw [if_neg na, if_neg nb]
  cases sg a <;> cases sg b <;> simp <;> omega
theorem same_pos (a b : Nat) (na : ¬ isNone a) (nb : ¬ isNone b) : sameB a b = true ↔ pos a = pos b ∨ (rg a = 0 ∧ rg b = 0) := by
  rw [same_key]
  have h : (¬ isNone a ∧ ¬ isNone b ∧ key a = key b) ↔ key a = key b := ⟨fun h => h.2.2, fun h => ⟨na, nb, h⟩⟩
  rw [h]
  unfold key pos
  rw [if_neg na, if_neg nb]
  cases sg a <;> cases sg b <;> simp <;> omega

/-! ## Sums by the same real -/
theorem rr_le (n : Nat) : rr n ≤ inf := Nat.min_le_right _ _
theorem rr_mono {n m : Nat} (h : n ≤ m) : rr n ≤ rr m := by
  unfold rr
  have := rnd_mono 0 h
  omega
theorem rr_zero : rr 0 = 0 := by unfold rr; rw [rnd_zero]; exact Nat.zero_min _
theorem key_ofInt (z : Int) (f : Bool) : key (ofInt z f) = if z < 0 then -(rr z.natAbs : Int) else (rr z.natAbs : Int) := by
  unfold ofInt key
  have hl := rr_le z.natAbs
  rw [sg_mk_le _ _ hl, rg_mk_le _ _ hl]
  by_cases h0 : z = 0
  · subst h0
    rw [if_pos rfl, Int.natAbs_zero, rr_zero]
    cases f <;> rfl
  · rw [if_neg h0]
    by_cases h : z < 0
    · rw [decide_eq_true h]; simp [h]
    · rw [decide_eq_false h]; simp [h]
theorem key_ofInt_mono {y z : Int} (f g : Bool) (h : y ≤ z) : key (ofInt y f) ≤ key (ofInt z g) := by
  rw [key_ofInt, key_ofInt]
  by_cases h1 : y < 0
  · rw [if_pos h1]
    by_cases h2 : z < 0
    · rw [if_pos h2]
      have := rr_mono (n := z.natAbs) (m := y.natAbs) (by omega)
      omega
    · rw [if_neg h2]; omega
  · rw [if_neg h1, if_neg (by omega)]
    have := rr_mono (n := y.natAbs) (m := z.natAbs) (by omega)
    omega
theorem key_bound (x : Nat) (h : ¬ isNone x) : -(inf : Int) ≤ key x ∧ key x ≤ inf := by
  unfold isNone at h
  unfold key
  split <;> omega
theorem add_inf_left (x y : Nat) (hx : rg x = inf) (hy : rg y < inf) : double.add x y = some (mk (sg x) inf) := by
  obtain ⟨m, p, e, _⟩ := read_fin y hy
  unfold Format.add
  rw [read_inf x hx, e]; rfl
theorem add_inf_right (x y : Nat) (hx : rg x < inf) (hy : rg y = inf) : double.add x y = some (mk (sg y) inf) := by
  obtain ⟨m, p, e, _⟩ := read_fin x hx
  unfold Format.add
  rw [read_inf y hy, e]; rfl
theorem add_inf_both (x y : Nat) (hx : rg x = inf) (hy : rg y = inf) : double.add x y = if sg x = sg y then some (mk (sg x) inf) else none := by
  unfold Format.add
  rw [read_inf x hx, read_inf y hy]
  show ((if sg x = sg y then some (Datum.infinity (sg x)) else none).map double.write) = _
  by_cases h : sg x = sg y
  · rw [if_pos h, if_pos h]; rfl
  · rw [if_neg h, if_neg h]; rfl
theorem key_inf (s : Bool) : key (mk s inf) = if s then -(inf : Int) else (inf : Int) := by
  unfold key
  rw [sg_mk_le s inf (Nat.le_refl _), rg_mk_le s inf (Nat.le_refl _)]
/-- Sums by the same real leave no two turned round. -/
theorem add_kept (a b c : Nat) (h : lessB a b = true) : lessB (addB b c) (addB a c) = false := by
  obtain ⟨na, nb, hk⟩ := (less_key a b).1 h
  rw [Bool.eq_false_iff]
  intro hl
  obtain ⟨n1, n2, hk2⟩ := (less_key _ _).1 hl
  have k1 := key_bound _ n1
  have k2 := key_bound _ n2
  have ka := key_bound _ na
  have kb := key_bound _ nb
  by_cases nc : isNone c
  · unfold addB at n1
    rw [add_none b c (.inr nc)] at n1
    exact n1 none_NAN
  have ha : rg a ≤ inf := by unfold isNone at na; omega
  have hb : rg b ≤ inf := by unfold isNone at nb; omega
  have hc : rg c ≤ inf := by unfold isNone at nc; omega
  have sa : rg a = inf → key a = if sg a then -(inf : Int) else inf := fun e => by unfold key; rw [e]
  have sb : rg b = inf → key b = if sg b then -(inf : Int) else inf := fun e => by unfold key; rw [e]
  by_cases ec : rg c = inf
  · -- the sum is an infinity, or none
    have E : ∀ x, ¬ isNone x → ¬ isNone (addB x c) → key (addB x c) = if sg c then -(inf : Int) else inf := by
      intro x nx nn
      have hx : rg x ≤ inf := by unfold isNone at nx; omega
      by_cases ex : rg x = inf
      · have e := add_inf_both x c ex ec
        unfold addB at nn ⊢
        by_cases hs : sg x = sg c
        · rw [e, if_pos hs]
          show key (mk (sg x) inf) = _
          rw [key_inf, hs]
        · rw [e, if_neg hs] at nn
          exact absurd none_NAN nn
      · have e := add_inf_right x c (by omega) ec
        unfold addB
        rw [e]
        exact key_inf _
    rw [E b nb n1, E a na n2] at hk2
    omega
  · have fc : rg c < inf := by omega
    by_cases ea : rg a = inf
    · have e := add_inf_left a c ea fc
      have h1 : key (addB a c) = if sg a then -(inf : Int) else inf := by unfold addB; rw [e]; exact key_inf _
      have h2 := sa ea
      cases hs : sg a
      · rw [hs] at h2; simp at h2; omega
      · rw [hs] at h1; simp at h1; omega
    · by_cases eb : rg b = inf
      · have e := add_inf_left b c eb fc
        have h1 : key (addB b c) = if sg b then -(inf : Int) else inf := by unfold addB; rw [e]; exact key_inf _
        have h2 := sb eb
        cases hs : sg b
        · rw [hs] at h1; simp at h1; omega
        · rw [hs] at h2; simp at h2; omega
      · have e1 := add_fin a c (by omega) fc
        have e2 := add_fin b c (by omega) fc
        have hv := (val_lt a b).2 hk
        have := key_ofInt_mono (y := val a + val c) (z := val b + val c) (sg a && sg c) (sg b && sg c) (by omega)
        unfold addB at hk2
        rw [e1, e2] at hk2
        simp only [Option.getD_some] at hk2
        omega
end Go.Proofs.Ytlgnkgcofdjamaa
